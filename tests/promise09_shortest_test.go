package tests

import (
	"fmt"
	"math/rand"
	"strings"
	"testing"

	"loop.example/g01142/impl"
)

// shapesOf returns all bursts of a length: their first bit and their last one are changed.
func shapesOf(length int) []string {
	if length == 1 {
		return []string{"1"}
	}
	var shapes []string
	for _, between := range textsOf(int64(length - 2)) {
		shapes = append(shapes, "1"+between+"1")
	}
	return shapes
}

// shortestByTrying returns the least length of bursts of which some is missed with some bits 0 behind it.
func shortestByTrying(p int64) int {
	for length := 1; ; length++ {
		for _, shape := range shapesOf(length) {
			for zeros := range 17 {
				if isMultipleReference(shape+strings.Repeat("0", zeros), p) {
					return length
				}
			}
		}
	}
}

func TestPromise9ShortestByTrying(t *testing.T) {
	for p := int64(2); p < 256; p++ {
		expect(t, []row{{fmt.Sprint("ShortestMissed ", p), show(impl.ShortestMissed(p)), show(shortestByTrying(p), true)}})
	}
}

// The shortest burst is the check itself, without the zeros at its end.
func TestPromise9ShortestOfAllChecks(t *testing.T) {
	for p := int64(2); p < 1<<17; p++ {
		burst := strings.TrimRight(coefficients(p), "0")
		got, ok := impl.ShortestMissed(p)
		if got != int64(len(burst)) || !ok {
			t.Errorf("ShortestMissed %d: got %d %v, want %d", p, got, ok, len(burst))
		}
		if p%37 == 0 && !impl.HasCheck(p, burst+strings.Repeat("0", 16)) {
			t.Errorf("the burst %s is not missed by %d", burst, p)
		}
	}
}

// unseenBursts returns how many bursts of a length can be changed in bits with their check, so that they still have it.
func unseenBursts(p int64, frame string, length int) int {
	count := 0
	for _, shape := range shapesOf(length) {
		for start := range len(frame) - length + 1 {
			mask := strings.Repeat("0", start) + shape + strings.Repeat("0", len(frame)-start-length)
			if impl.HasCheck(p, differences(frame, mask)) {
				count++
			}
		}
	}
	return count
}

// Shorter bursts are seen wherever they stand, and some of the told length are not.
func TestPromise9ShorterBurstsAreSeen(t *testing.T) {
	source := rand.New(rand.NewSource(181))
	for p := int64(2); p < 256; p++ {
		shortest, ok := impl.ShortestMissed(p)
		frame, _ := impl.AddCheck(p, drawnBits(source, 8))
		for length := 1; length <= int(shortest); length++ {
			count := unseenBursts(p, frame, length)
			if !ok || (count > 0) != (length == int(shortest)) {
				t.Errorf("ShortestMissed %d: got %d %v, and %d bursts of %d bits are not seen in %s", p, shortest, ok, count, length, frame)
			}
		}
	}
	for _, p := range sampleChecks(source) {
		shortest, _ := impl.ShortestMissed(p)
		frame, _ := impl.AddCheck(p, drawnBits(source, 4))
		if degreeOf(p) > 8 && shortest <= 13 {
			if count := unseenBursts(p, frame, int(shortest)); count == 0 {
				t.Errorf("ShortestMissed %d: got %d, and all bursts are seen in %s", p, shortest, frame)
			}
			if count := unseenBursts(p, frame, max(int(shortest)-1, 1)); count > 0 && shortest > 1 {
				t.Errorf("ShortestMissed %d: got %d, and %d shorter bursts are not seen in %s", p, shortest, count, frame)
			}
		}
	}
}

func TestPromise9ShortestExamples(t *testing.T) {
	expect(t, []row{
		{"11", show(impl.ShortestMissed(11)), "4 true"},
		{"12", show(impl.ShortestMissed(12)), "2 true"},
		{"2", show(impl.ShortestMissed(2)), "1 true"},
		{"3", show(impl.ShortestMissed(3)), "2 true"},
		{"4", show(impl.ShortestMissed(4)), "1 true"},
		{"5", show(impl.ShortestMissed(5)), "3 true"},
		{"22", show(impl.ShortestMissed(22)), "4 true"},
		{"2 to the power of 16", show(impl.ShortestMissed(65536)), "1 true"},
		{"2 to the power of 16, plus 1", show(impl.ShortestMissed(65537)), "17 true"},
		{"3 times 2 to the power of 15", show(impl.ShortestMissed(3 << 15)), "2 true"},
		{"the greatest check", show(impl.ShortestMissed(131071)), "17 true"},
		{"the greatest check without a bit 0", show(impl.ShortestMissed(131070)), "16 true"},
		{"1", show(impl.ShortestMissed(1)), noNumber},
		{"0", show(impl.ShortestMissed(0)), noNumber},
		{"2 to the power of 17", show(impl.ShortestMissed(131072)), noNumber},
	})
}

package tests

import (
	"fmt"
	"math"
	"math/rand"
	"strings"
	"testing"

	"loop.example/g01142/impl"
)

// patternsByTrying returns the patterns of at most one bit more than a word that occur in lines.
func patternsByTrying(c impl.BlockCode) map[string]bool {
	occurs := map[string]bool{}
	for _, lines := range linesByTrying(c) {
		for _, line := range lines {
			for from := range line {
				for to := from + 1; to <= min(len(line), from+int(c.Width)+1); to++ {
					occurs[line[from:to]] = true
				}
			}
		}
	}
	return occurs
}

// checkCommas checks what is told of commas of some lengths, and returns how many there are.
func checkCommas(t *testing.T, c impl.BlockCode, occurs map[string]bool, least, most int64) int {
	t.Helper()
	count := 0
	for length := least; length <= min(most, c.Width+1); length++ {
		commas := []string{}
		for n := range 1 << length {
			pattern := fmt.Sprintf("%0*b", int(length), n)
			if !occurs[pattern] {
				commas = append(commas, pattern)
			}
			if got := impl.IsComma(c, pattern); got == occurs[pattern] {
				t.Errorf("%v: IsComma %s: got %v", c, pattern, got)
			}
		}
		count += len(commas)
		if length <= impl.MaxComma {
			expect(t, []row{{fmt.Sprint("CommasOf ", c, length), show(impl.CommasOf(c, length)), show(commas, true)}})
		}
	}
	return count
}

func TestPromise4CommasByTrying(t *testing.T) {
	codes := sampleCodes()
	for part := range 8 {
		t.Run(fmt.Sprint(part), func(t *testing.T) {
			t.Parallel()
			count := 0
			for i, c := range codes {
				// All patterns of wide codes would take too long for all codes.
				most := int64(6)
				if i%5 == 0 || c.Width <= 4 {
					most = impl.MaxComma + 1
				}
				if i%8 == part {
					count += checkCommas(t, c, patternsByTrying(c), 1, most)
				}
			}
			if count == 0 {
				t.Errorf("no code has a comma")
			}
		})
	}
}

func TestPromise4LongCommas(t *testing.T) {
	source := rand.New(rand.NewSource(5))
	for _, sizes := range [][2]int64{{1, 10}, {2, 12}, {6, 12}} {
		c, _ := drawnCode(source, sizes[0], sizes[1], 0, 1, 2, 3, 4)
		checkCommas(t, c, patternsByTrying(c), c.Width+1, c.Width+1)
	}
}

func TestPromise4CommasOccurInNoData(t *testing.T) {
	source := rand.New(rand.NewSource(6))
	for _, c := range sampleCodes() {
		var commas []string
		for length := int64(1); length <= min(impl.MaxComma, c.Width+1); length++ {
			list, _ := impl.CommasOf(c, length)
			commas = append(commas, list...)
		}
		for _, start := range []int64{-1, 1} {
			sent, _, _ := impl.EncodeBlocks(c, start, drawnData(source, c, impl.MaxBits/c.Width))
			for _, comma := range commas {
				if strings.Contains(sent, comma) {
					t.Errorf("%v: the comma %s occurs in %s", c, comma, sent)
				}
			}
		}
	}
}

func TestPromise4LengthsOfCommas(t *testing.T) {
	for _, c := range sampleCodes() {
		most := min(8, c.Width+1)
		for length := int64(1); length <= 14; length++ {
			_, ok := impl.CommasOf(c, length)
			if ok != (length <= most) {
				t.Errorf("CommasOf %v %d: got %v", c, length, ok)
			}
		}
		for _, length := range []int64{math.MinInt64, -1, 0, most + 1, 62, 63, 64, math.MaxInt64} {
			expect(t, []row{{fmt.Sprint("CommasOf ", c, length), show(impl.CommasOf(c, length)), noList}})
		}
		run, _ := impl.RunBound(c)
		for _, digit := range []string{"0", "1"} {
			longest := strings.Repeat(digit, int(c.Width)+1)
			if run <= c.Width && !impl.IsComma(c, longest) {
				t.Errorf("IsComma %v %s: got false, but the longest run is %d", c, longest, run)
			}
			expect(t, []row{{fmt.Sprint("IsComma of one bit more ", c), show(impl.IsComma(c, longest+digit)), "false"}})
		}
		for _, s := range append(notBits, "", strings.Repeat("1", 400), strings.Repeat("01", 200)) {
			if impl.IsComma(c, s) {
				t.Errorf("IsComma %v: %.20q is one", c, s)
			}
		}
	}
}

func TestPromise4CommasOfExamples(t *testing.T) {
	pair, _ := makeReference(1, 2)
	wide, _ := makeReference(1, 12)
	turning := codeOf(1, 4, []string{"0111", "1011"}, []string{"1000", "0100"})
	staying := codeOf(1, 4, []string{"0111", "1010"}, []string{"1000", "1010"})
	expect(t, []row{
		{"1 and 2", show(impl.CommasOf(pair, 3)), "[000 111] true"},
		{"1 and 2, no commas", show(impl.CommasOf(pair, 2)), "[] true"},
		{"1 and 2, no commas of one bit", show(impl.CommasOf(pair, 1)), "[] true"},
		{"1 and 2, more bits than a word and one", show(impl.CommasOf(pair, 4)), noList},
		{"runs of 2", show(impl.CommasOf(codeOf(1, 2, []string{"10", "11"}, []string{"01", "00"}), 3)), "[000 111] true"},
		{"runs of 3", show(impl.CommasOf(codeOf(1, 2, []string{"01", "11"}, []string{"01", "00"}), 3)), "[] true"},
		{"in a word", show(impl.IsComma(wide, "000010")), "false"},
		{"a whole word", show(impl.IsComma(wide, "000001011111")), "false"},
		{"across the last bit of a word and the next word", show(impl.IsComma(wide, "1000001011111")), "false"},
		{"across a word and the first bit of the next one", show(impl.IsComma(wide, "0000010111110")), "false"},
		{"in the middle of two words", show(impl.IsComma(wide, "1011111000000")), "false"},
		{"nowhere", show(impl.IsComma(wide, "0000010111111")), "true"},
		{"a part of it", show(impl.IsComma(wide, "10111111")), "true"},
		{"Minus does not follow words of Minus that change the state", show(impl.IsComma(turning, "11011")), "true"},
		{"Plus does not follow words of Plus that change the state", show(impl.IsComma(turning, "00100")), "true"},
		{"Plus follows words of Minus", show(impl.IsComma(turning, "11010")), "false"},
		{"Minus follows words of Minus that keep the state", show(impl.IsComma(staying, "10011")), "false"},
		{"Plus does not follow them", show(impl.IsComma(codeOf(1, 4, []string{"0111", "1010"}, []string{"1000", "0100"}), "00100")), "true"},
	})
}

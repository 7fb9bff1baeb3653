package tests

import (
	"fmt"
	"math/rand"
	"strings"
	"testing"

	"loop.example/g01142/impl"
)

// slideReference sends bits through branches in turn. Each branch has a queue of
// bits 0 with a number of cells: a bit goes in, and the one that is there for longest comes out.
func slideReference(bits string, branches int, cellsOf func(branch int) int) string {
	queues := make([][]byte, branches)
	for branch := range queues {
		queues[branch] = []byte(strings.Repeat("0", cellsOf(branch)))
	}
	var all strings.Builder
	for i := range len(bits) {
		queue := append(queues[i%branches], bits[i])
		all.WriteByte(queue[0])
		queues[i%branches] = queue[1:]
	}
	return all.String()
}

// laterReference returns as many bits, which are behind some bits 0.
func laterReference(bits string, delay int) string {
	return (strings.Repeat("0", delay) + bits)[:len(bits)]
}

func checkSlide(t *testing.T, branches, step int, bits string) {
	t.Helper()
	b, s := int64(branches), int64(step)
	slid := slideReference(bits, branches, func(branch int) int { return branch * step })
	other := slideReference(bits, branches, func(branch int) int { return (branches - 1 - branch) * step })
	later := laterReference(bits, (branches-1)*step*branches)
	name := fmt.Sprint(branches, step, " ", bits)
	expect(t, []row{
		{"SlideInterleave " + name, show(impl.SlideInterleave(b, s, bits)), show(slid, true)},
		{"SlideDeinterleave " + name, show(impl.SlideDeinterleave(b, s, bits)), show(other, true)},
		{"SlideDeinterleave behind SlideInterleave " + name, show(impl.SlideDeinterleave(b, s, slid)), show(later, true)},
		{"SlideInterleave behind SlideDeinterleave " + name, show(impl.SlideInterleave(b, s, other)), show(later, true)},
	})
}

// eachSlider calls a function for all branches and steps.
func eachSlider(check func(branches, step int)) { eachBlock(check) }

func TestPromise9AllShortTextsAreSlid(t *testing.T) {
	for branches := 1; branches <= 4; branches++ {
		for step := 1; step <= 3; step++ {
			for _, bits := range textsUpTo(9) {
				checkSlide(t, branches, step, bits)
			}
		}
	}
	for _, bits := range textsOf(14) {
		checkSlide(t, 2, 1, bits)
		checkSlide(t, 3, 2, bits)
	}
}

// slideLengths returns no bits, fewer bits than the delay, just as many, more, and the most.
func slideLengths(branches, step int) []int {
	var lengths []int
	delay := (branches - 1) * step * branches
	for _, length := range []int{
		0, 1, branches - 1, branches, branches + 1, step * branches, step*branches + 1, step*branches + 2, delay - 1, delay, delay + 1, 2*delay + 3, 399, 400,
	} {
		if 0 <= length && length <= 400 {
			lengths = append(lengths, length)
		}
	}
	return lengths
}

func TestPromise9Slides(t *testing.T) {
	eachSlider(func(branches, step int) {
		t.Run(fmt.Sprint(branches, step), func(t *testing.T) {
			t.Parallel()
			source := rand.New(rand.NewSource(int64(1000 + 100*branches + step)))
			for _, length := range slideLengths(branches, step) {
				for _, bits := range longTexts(source, int64(length)) {
					checkSlide(t, branches, step, bits)
				}
			}
		})
	})
}

func TestPromise9SlideDelays(t *testing.T) {
	eachSlider(func(branches, step int) {
		delay, ok := impl.SlideDelay(int64(branches), int64(step))
		if delay != int64((branches-1)*step*branches) || !ok {
			t.Errorf("SlideDelay %d %d: got %d %v", branches, step, delay, ok)
		}
	})
}

// A single bit comes out as late as its branch, and behind both as late as SlideDelay tells.
func TestPromise9SingleBitsAreSlid(t *testing.T) {
	for _, sides := range [][2]int{{1, 1}, {1, 20}, {2, 1}, {2, 20}, {3, 2}, {5, 7}, {19, 1}, {20, 1}, {20, 20}} {
		branches, step := int64(sides[0]), int64(sides[1])
		delay, _ := impl.SlideDelay(branches, step)
		for place := range int64(400) {
			single := withChange(strings.Repeat("0", 400), int(place))
			slid, ok := impl.SlideInterleave(branches, step, single)
			want := place + place%branches*step*branches
			if at := int64(strings.Index(slid, "1")); !ok || at != want && (want < 400 || at >= 0) {
				t.Errorf("SlideInterleave %d %d: the bit at %d came to %d, not %d", branches, step, place, at, want)
			}
			back, ok := impl.SlideDeinterleave(branches, step, slid)
			if at := int64(strings.Index(back, "1")); !ok || at != place+delay && (place+delay < 400 || at >= 0) {
				t.Errorf("SlideDeinterleave %d %d: the bit at %d came to %d, not %d", branches, step, place, at, place+delay)
			}
		}
	}
}

// The bits of a burst that is no longer than there are branches are at least a step times branches, less 1, apart behind SlideDeinterleave.
func TestPromise9BurstsAreSlidApart(t *testing.T) {
	for _, sides := range [][2]int{{2, 1}, {2, 20}, {3, 5}, {5, 3}, {7, 2}, {10, 1}} {
		branches, step := sides[0], sides[1]
		for start := range 100 {
			bits := strings.Repeat("0", start) + strings.Repeat("1", branches) + strings.Repeat("0", 400-start-branches)
			back, ok := impl.SlideDeinterleave(int64(branches), int64(step), bits)
			first := strings.Index(back, "1")
			if !ok || strings.Count(back, "1") != branches {
				t.Fatalf("SlideDeinterleave %d %d %s: got %s %v", branches, step, bits, back, ok)
			}
			for at := first + 1; at < len(back); at++ {
				if back[at] == '0' {
					continue
				}
				if at-first < step*branches-1 {
					t.Errorf("SlideDeinterleave %d %d: bits of a burst at %d come to %d and %d", branches, step, start, first, at)
				}
				first = at
			}
		}
	}
}

func TestPromise9SlideExamples(t *testing.T) {
	ones, zeros := strings.Repeat("1", 401), strings.Repeat("0", 401)
	pairs := strings.Repeat("10", 200)
	expect(t, []row{
		{"two branches", show(impl.SlideInterleave(2, 1, "110111")), `"100111" true`},
		{"two branches, back", show(impl.SlideDeinterleave(2, 1, "100111")), `"001101" true`},
		{"the delay of 3 branches", show(impl.SlideDelay(3, 2)), "12 true"},
		{"the delay of 2 branches", show(impl.SlideDelay(2, 1)), "2 true"},
		{"the delay of 1 branch", show(impl.SlideDelay(1, 1)), "0 true"},
		{"the delay of 1 branch with 20 steps", show(impl.SlideDelay(1, 20)), "0 true"},
		{"the delay of 20 branches", show(impl.SlideDelay(20, 1)), "380 true"},
		{"the greatest delay", show(impl.SlideDelay(20, 20)), "7600 true"},
		{"one branch", show(impl.SlideInterleave(1, 20, "0110")), `"0110" true`},
		{"one branch, back", show(impl.SlideDeinterleave(1, 20, "0110")), `"0110" true`},
		{"no bits", show(impl.SlideInterleave(3, 2, "")), `"" true`},
		{"no bits, back", show(impl.SlideDeinterleave(3, 2, "")), `"" true`},
		{"one bit", show(impl.SlideInterleave(20, 20, "1")), `"1" true`},
		{"one bit, back", show(impl.SlideDeinterleave(20, 20, "1")), `"0" true`},
		{"one bit and one branch, back", show(impl.SlideDeinterleave(1, 20, "1")), `"1" true`},
		{"as many bits as the delay", show(impl.SlideDeinterleave(2, 2, "1000")), `"0000" true`},
		{"one bit more than the delay", show(impl.SlideDeinterleave(2, 2, "10000")), `"00001" true`},
		{"the last branch", show(impl.SlideInterleave(3, 1, "111111111")), `"100110111" true`},
		{"the last branch, back", show(impl.SlideDeinterleave(3, 1, "111111111")), `"001011111" true`},
		{"400 bits", show(impl.SlideInterleave(1, 1, ones[:400])), show(ones[:400], true)},
		{"400 bits in 20 branches", show(impl.SlideInterleave(20, 20, ones[:400])), show(strings.Repeat("1"+zeros[:19], 20), true)},
		{"400 bits in 2 branches", show(impl.SlideInterleave(2, 20, ones[:400])), show(pairs[:40]+ones[:360], true)},
		{"401 bits", show(impl.SlideInterleave(2, 1, ones)), noText},
		{"401 bits, back", show(impl.SlideDeinterleave(2, 1, zeros)), noText},
		{"no branches", show(impl.SlideInterleave(0, 1, "1")), noText},
		{"no step", show(impl.SlideInterleave(1, 0, "1")), noText},
		{"21 branches", show(impl.SlideInterleave(21, 1, "1")), noText},
		{"a step of 21", show(impl.SlideInterleave(1, 21, "1")), noText},
		{"the delay of 21 branches", show(impl.SlideDelay(21, 1)), noNumber},
		{"the delay of a step of 21", show(impl.SlideDelay(1, 21)), noNumber},
	})
}

func TestPromise9SlidesThatFail(t *testing.T) {
	for _, n := range notSides {
		for _, side := range []int64{1, 2, 20} {
			for _, bits := range []string{"", "0", "1", "0110", strings.Repeat("1", 400)} {
				name := fmt.Sprint(n, side, bits)
				expect(t, []row{
					{"SlideInterleave, branches " + name, show(impl.SlideInterleave(n, side, bits)), noText},
					{"SlideInterleave, step " + name, show(impl.SlideInterleave(side, n, bits)), noText},
					{"SlideInterleave, both " + name, show(impl.SlideInterleave(n, n, bits)), noText},
					{"SlideDeinterleave, branches " + name, show(impl.SlideDeinterleave(n, side, bits)), noText},
					{"SlideDeinterleave, step " + name, show(impl.SlideDeinterleave(side, n, bits)), noText},
					{"SlideDeinterleave, both " + name, show(impl.SlideDeinterleave(n, n, bits)), noText},
				})
			}
			expect(t, []row{
				{fmt.Sprint("SlideDelay, branches ", n, side), show(impl.SlideDelay(n, side)), noNumber},
				{fmt.Sprint("SlideDelay, step ", n, side), show(impl.SlideDelay(side, n)), noNumber},
				{fmt.Sprint("SlideDelay, both ", n), show(impl.SlideDelay(n, n)), noNumber},
			})
		}
	}
	for _, sides := range [][2]int64{{1, 1}, {2, 1}, {20, 20}} {
		for _, text := range append(withoutBits(5), notBits...) {
			expect(t, []row{
				{"SlideInterleave " + text, show(impl.SlideInterleave(sides[0], sides[1], text)), noText},
				{"SlideDeinterleave " + text, show(impl.SlideDeinterleave(sides[0], sides[1], text)), noText},
			})
		}
	}
}

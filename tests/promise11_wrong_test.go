package tests

import (
	"fmt"
	"math"
	"math/rand"
	"slices"
	"strings"
	"testing"

	"loop.example/g01142/impl"
)

// beginningsOf returns all texts with which the levels of at most so many bits can begin.
func beginningsOf(kind int64, most int) map[string]bool {
	beginnings := map[string]bool{}
	for text := range linesOf(kind, most) {
		for end := range len(text) + 1 {
			beginnings[text[:end]] = true
		}
	}
	return beginnings
}

func TestPromise11FirstWrongOfFewLevels(t *testing.T) {
	for _, kind := range lineKinds {
		beginnings := beginningsOf(kind, 8)
		for _, levels := range listsUpTo(8, -1, 0, 1) {
			text := textWith(levels)
			want := noNumber
			for i := range text {
				if !beginnings[text[:i+1]] {
					want = show(i, true)
					break
				}
			}
			expect(t, []row{{fmt.Sprint("FirstWrong ", kind, levels), show(impl.FirstWrong(kind, levels)), want}})
		}
	}
}

// agreeing returns how many first bytes of two texts are equal.
func agreeing(a, b string) int {
	count := 0
	for count < min(len(a), len(b)) && a[count] == b[count] {
		count++
	}
	return count
}

// wrongReference returns the first wrong one of levels, or how many there are: bits are found one by one that agree with as many as can be.
func wrongReference(kind int64, text string) int {
	bits := ""
	agreed := 0
	for agreed == widthReference(kind)*len(bits) && agreed < len(text) {
		zero, one := agreeing(text, textReference(kind, bits+"0")), agreeing(text, textReference(kind, bits+"1"))
		agreed = max(zero, one)
		if one > zero {
			bits += "1"
		} else {
			bits += "0"
		}
	}
	return agreed
}

// checkFirstWrong compares the first wrong one of levels, and of all that begin with the levels up to it, or end before it.
func checkFirstWrong(t *testing.T, kind int64, levels []int64) {
	t.Helper()
	name := fmt.Sprint("FirstWrong ", kind, levels)
	at := wrongReference(kind, textWith(levels))
	want := noNumber
	if at < len(levels) {
		want = show(at, true)
		expect(t, []row{{name + " up to it", show(impl.FirstWrong(kind, levels[:at+1])), want}})
	}
	expect(t, []row{
		{name, show(impl.FirstWrong(kind, levels)), want},
		{name + " before it", show(impl.FirstWrong(kind, levels[:at])), noNumber},
	})
}

func TestPromise11FirstWrongOfManyLevels(t *testing.T) {
	source := rand.New(rand.NewSource(174))
	for _, kind := range lineKinds {
		for _, count := range []int{1, 30, 201, 400} {
			right := levelsIn(textReference(kind, drawnBits(source, int64(count))))
			checkFirstWrong(t, kind, right)
			last := len(right) - 1
			for _, place := range []int{0, last / 2, last - 1, last} {
				for level := int64(-1); level <= 1; level++ {
					changed := slices.Clone(right)
					changed[max(place, 0)] = level
					checkFirstWrong(t, kind, changed)
				}
			}
			for range 5 {
				checkFirstWrong(t, kind, drawnLevels(source, len(right)))
			}
		}
	}
}

func TestPromise11FirstWrongAsWritten(t *testing.T) {
	most := strings.Repeat("+-", 400)
	for _, c := range []struct {
		kind   int64
		levels string
		want   string
	}{
		// No error at all.
		{impl.LineStraight, "", noNumber}, {impl.LineHalves, "", noNumber}, {impl.LineThree, "", noNumber},
		{impl.LineStraight, "+-", noNumber}, {impl.LineChange, "--++", noNumber}, {impl.LineAlternate, "0+00-0", noNumber}, {impl.LineThree, "0++0-", noNumber},
		{impl.LineStraight, most[:400], noNumber}, {impl.LineChange, most[:400], noNumber}, {impl.LineAlternate, most[:400], noNumber},
		{impl.LineHalves, most, noNumber}, {impl.LineHalfwise, most, noNumber},
		// The first level.
		{impl.LineStraight, "0", "0 true"}, {impl.LineChange, "0+", "0 true"}, {impl.LineHalves, "0", "0 true"}, {impl.LineHalfwise, "00", "0 true"},
		{impl.LineAlternate, "-+", "0 true"}, {impl.LineThree, "-", "0 true"},
		// The second level of a pair.
		{impl.LineHalves, "++", "1 true"}, {impl.LineHalves, "--", "1 true"}, {impl.LineHalves, "-0", "1 true"}, {impl.LineHalves, "+-+0", "3 true"},
		{impl.LineHalfwise, "++", "1 true"}, {impl.LineHalfwise, "--", "1 true"}, {impl.LineHalfwise, "+0", "1 true"}, {impl.LineHalfwise, "-++-++", "5 true"},
		// The last level.
		{impl.LineStraight, most[:399] + "0", "399 true"}, {impl.LineChange, most[:399] + "0", "399 true"}, {impl.LineAlternate, most[:399] + "+", "399 true"},
		{impl.LineHalves, most[:799] + "+", "799 true"}, {impl.LineHalfwise, most[:799] + "0", "799 true"}, {impl.LineThree, strings.Repeat("0", 399) + "-", "399 true"},
		// Half a pair can be right, and is no error.
		{impl.LineHalves, "+-+", noNumber}, {impl.LineHalves, "+--", noNumber}, {impl.LineHalfwise, "-", noNumber}, {impl.LineHalfwise, "+-+", noNumber},
		{impl.LineHalves, most[:799], noNumber}, {impl.LineHalfwise, most[:799], noNumber}, {impl.LineHalves, "+-0", "2 true"}, {impl.LineHalfwise, "+-0", "2 true"},
		// Marks come by turns, however many zeros are between them.
		{impl.LineAlternate, "+0+", "2 true"}, {impl.LineAlternate, "+0000000-0-", "10 true"}, {impl.LineAlternate, "++", "1 true"}, {impl.LineAlternate, "0-", "1 true"},
		{impl.LineThree, "+-", "1 true"}, {impl.LineThree, "+0+", "2 true"}, {impl.LineThree, "++00--00-", "8 true"}, {impl.LineThree, "0-", "1 true"}, {impl.LineThree, "+00-+", "4 true"},
	} {
		levels := levelsIn(c.levels)
		expect(t, []row{{fmt.Sprint("FirstWrong ", c.kind, c.levels), show(impl.FirstWrong(c.kind, levels)), c.want}})
		checkFirstWrong(t, c.kind, levels)
	}
}

// behindReference returns how many bits are wrong.
func behindReference(kind int64, bits string, place int, level int64) int {
	levels := levelsIn(textReference(kind, bits))
	levels[place] = level
	return strings.Count(differences(bits, readReference(kind, textWith(levels))), "1")
}

func checkWrongBehind(t *testing.T, kind int64, bits string, place int) {
	t.Helper()
	before := levelsIn(textReference(kind, bits))[place]
	for level := int64(-1); level <= 1; level++ {
		want := noNumber
		if level != before {
			want = show(behindReference(kind, bits, place, level), true)
		}
		expect(t, []row{{fmt.Sprint("WrongBehind ", kind, bits, " ", place, level), show(impl.WrongBehind(kind, bits, int64(place), level)), want}})
	}
}

func TestPromise11WrongBehindFewBits(t *testing.T) {
	for _, kind := range lineKinds {
		for _, bits := range textsUpTo(8) {
			for place := range widthReference(kind) * len(bits) {
				checkWrongBehind(t, kind, bits, place)
			}
		}
	}
}

func TestPromise11WrongBehindManyBits(t *testing.T) {
	source := rand.New(rand.NewSource(175))
	for _, kind := range lineKinds {
		for _, count := range []int{100, 399, 400} {
			for _, bits := range longBits(source, count) {
				last := widthReference(kind)*count - 1
				for _, place := range []int{0, 1, 2, last / 2, last/2 + 1, source.Intn(last), last - 1, last} {
					checkWrongBehind(t, kind, bits, place)
				}
			}
		}
	}
}

func TestPromise11WrongBehindAsWritten(t *testing.T) {
	expect(t, []row{
		{"straight", show(impl.WrongBehind(impl.LineStraight, "11", 0, -1)), "1 true"},
		{"straight with 0", show(impl.WrongBehind(impl.LineStraight, "11", 0, 0)), "1 true"},
		{"straight with 0 for a bit 0", show(impl.WrongBehind(impl.LineStraight, "00", 1, 0)), "0 true"},
		{"change", show(impl.WrongBehind(impl.LineChange, "11", 0, -1)), "2 true"},
		{"the last change", show(impl.WrongBehind(impl.LineChange, "11", 1, 1)), "1 true"},
		{"change with 0", show(impl.WrongBehind(impl.LineChange, "11", 0, 0)), "0 true"},
		{"change that stands there", show(impl.WrongBehind(impl.LineChange, "11", 0, 1)), noNumber},
		{"halves", show(impl.WrongBehind(impl.LineHalves, "11", 0, 1)), "1 true"},
		{"halves with 0", show(impl.WrongBehind(impl.LineHalves, "10", 1, 0)), "0 true"},
		{"halves of a bit 0", show(impl.WrongBehind(impl.LineHalves, "10", 3, 1)), "0 true"},
		{"halfwise", show(impl.WrongBehind(impl.LineHalfwise, "11", 1, -1)), "1 true"},
		{"halfwise at a first level", show(impl.WrongBehind(impl.LineHalfwise, "11", 0, 1)), "1 true"},
		{"halfwise at the last level", show(impl.WrongBehind(impl.LineHalfwise, "11", 3, 1)), "0 true"},
		{"alternate", show(impl.WrongBehind(impl.LineAlternate, "110", 1, 0)), "1 true"},
		{"alternate with another mark", show(impl.WrongBehind(impl.LineAlternate, "110", 1, 1)), "0 true"},
		{"three", show(impl.WrongBehind(impl.LineThree, "0110", 1, 0)), "2 true"},
		{"three with another mark", show(impl.WrongBehind(impl.LineThree, "0110", 1, -1)), "0 true"},
	})
}

func TestPromise11WrongBehindThatFails(t *testing.T) {
	extremes := []int64{math.MinInt64, math.MinInt64 + 1, math.MaxInt64 - 1, math.MaxInt64, 1 << 32, -1 << 32}
	for _, kind := range lineKinds {
		for _, bits := range []string{"", "0", "1", "1101", strings.Repeat("1", 400)} {
			count := int64(widthReference(kind) * len(bits))
			for level := int64(-1); level <= 1; level++ {
				for _, place := range append(outside(count-1), append(extremes, count+400, 1<<32+count, -count)...) {
					if 0 <= place && place < count {
						continue
					}
					expect(t, []row{{fmt.Sprint("WrongBehind ", kind, bits, " ", place, level), show(impl.WrongBehind(kind, bits, place, level)), noNumber}})
				}
			}
			for _, level := range append([]int64{-2, 2, 3, -3, 255, 256, 257, 1<<32 + 1, 1<<32 - 1}, extremes...) {
				for place := range min(count, 3) {
					expect(t, []row{{fmt.Sprint("WrongBehind ", kind, bits, " ", place, level), show(impl.WrongBehind(kind, bits, place, level)), noNumber}})
				}
			}
		}
		for _, bits := range append(withoutBits(400), append(withoutBits(2), notBits...)...) {
			for level := int64(-1); level <= 1; level++ {
				expect(t, []row{{fmt.Sprint("WrongBehind ", kind, bits, " ", level), show(impl.WrongBehind(kind, bits, 0, level)), noNumber}})
			}
		}
	}
	for _, kind := range notKinds {
		for level := int64(-1); level <= 1; level++ {
			expect(t, []row{{fmt.Sprint("WrongBehind ", kind, level), show(impl.WrongBehind(kind, "1101", 1, level)), noNumber}})
		}
	}
}

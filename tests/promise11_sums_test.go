package tests

import (
	"fmt"
	"math"
	"math/rand"
	"slices"
	"strings"
	"testing"

	"loop.example/g01142/impl"
)

// flatReference returns the length of the longest part of a text with equal bytes.
func flatReference(text string) int {
	length := 0
	for _, sign := range []string{"-", "0", "+"} {
		for strings.Contains(text, strings.Repeat(sign, length+1)) {
			length++
		}
	}
	return length
}

// checkSums compares what is told of the sums, flat parts and changes of levels.
func checkSums(t *testing.T, levels []int64) {
	t.Helper()
	name := fmt.Sprint(levels)
	sums := []int64{0}
	changes := 0
	for i := range levels {
		sums = append(sums, sumOf(levels[:i+1]))
		if i > 0 && levels[i] != levels[i-1] {
			changes++
		}
	}
	expect(t, []row{
		{"SumsOf " + name, show(impl.SumsOf(levels)), show(slices.Min(sums), slices.Max(sums), true)},
		{"LongestFlat " + name, show(impl.LongestFlat(levels)), show(flatReference(textWith(levels)), true)},
		{"ChangesOf " + name, show(impl.ChangesOf(levels)), show(changes, true)},
	})
}

func TestPromise11SumsOfFewLevels(t *testing.T) {
	for _, levels := range listsUpTo(8, -1, 0, 1) {
		checkSums(t, levels)
	}
}

func TestPromise11SumsOfManyLevels(t *testing.T) {
	source := rand.New(rand.NewSource(176))
	for _, count := range []int{20, 64, 255, 256, 257, 399, 400, 401, 799, 800} {
		for _, levels := range [][]int64{
			repeated[int64](-1, count), repeated[int64](0, count), repeated[int64](1, count), drawnLevels(source, count), drawnLevels(source, count),
			append(repeated[int64](1, count/2), repeated[int64](-1, count-count/2)...), append(repeated[int64](-1, count-3), 0, 1, 1),
			levelsIn(strings.Repeat("+-", 400)[:count]), levelsIn(strings.Repeat("-+", 400)[:count]), levelsIn(strings.Repeat("0+-", 300)[:count]),
		} {
			checkSums(t, levels)
		}
	}
}

func TestPromise11SumsAsWritten(t *testing.T) {
	for _, c := range []struct {
		levels  string
		sums    string
		flat    string
		changes string
	}{
		{"", "0 0 true", "0 true", "0 true"}, {"0", "0 0 true", "1 true", "0 true"}, {"+", "0 1 true", "1 true", "0 true"}, {"-", "-1 0 true", "1 true", "0 true"},
		// The least or the greatest sum is that of no levels.
		{"+++", "0 3 true", "3 true", "0 true"}, {"---", "-3 0 true", "3 true", "0 true"}, {"+0+-", "0 2 true", "1 true", "3 true"}, {"-+-0-", "-2 0 true", "1 true", "4 true"},
		{"--+++0", "-2 1 true", "3 true", "2 true"}, {"++---0000", "-1 2 true", "4 true", "2 true"},
		// All equal, and none.
		{"00000", "0 0 true", "5 true", "0 true"}, {"+-+-+", "0 1 true", "1 true", "4 true"}, {"0+0-0", "0 1 true", "1 true", "4 true"},
		{strings.Repeat("+", 800), "0 800 true", "800 true", "0 true"}, {strings.Repeat("-", 800), "-800 0 true", "800 true", "0 true"},
		{strings.Repeat("+-", 400), "0 1 true", "1 true", "799 true"}, {strings.Repeat("+", 400) + strings.Repeat("-", 400), "0 400 true", "400 true", "1 true"},
	} {
		levels := levelsIn(c.levels)
		expect(t, []row{
			{"SumsOf " + c.levels, show(impl.SumsOf(levels)), c.sums},
			{"LongestFlat " + c.levels, show(impl.LongestFlat(levels)), c.flat},
			{"ChangesOf " + c.levels, show(impl.ChangesOf(levels)), c.changes},
		})
		checkSums(t, levels)
	}
}

func TestPromise11SumsThatFail(t *testing.T) {
	for _, levels := range notLevels {
		name := fmt.Sprint(levels)
		expect(t, []row{
			{"SumsOf " + name, show(impl.SumsOf(levels)), "0 0 false"},
			{"LongestFlat " + name, show(impl.LongestFlat(levels)), noNumber},
			{"ChangesOf " + name, show(impl.ChangesOf(levels)), noNumber},
			{"TurnLevels " + name, show(impl.TurnLevels(levels)), noList},
			{"LevelsText " + name, show(impl.LevelsText(levels)), noText},
		})
	}
}

var turnedSigns = strings.NewReplacer("+", "-", "-", "+")

// checkTurned compares turned levels, and what these are read as.
func checkTurned(t *testing.T, levels []int64) {
	t.Helper()
	name := fmt.Sprint(levels)
	turned, ok := impl.TurnLevels(levels)
	expect(t, []row{
		{"TurnLevels " + name, show(turned, ok), show(levelsIn(turnedSigns.Replace(textWith(levels))), true)},
		{"TurnLevels twice " + name, show(impl.TurnLevels(turned)), show(levels, true)},
	})
	for _, kind := range lineKinds {
		before, isRead := impl.ReadLevels(kind, levels)
		behind, isReadTurned := impl.ReadLevels(kind, turned)
		if isRead != isReadTurned || len(before) != len(behind) {
			t.Errorf("%s of the kind %d are read as %s, and turned as %s", name, kind, before, behind)
			continue
		}
		if before == "" {
			continue
		}
		switch kind {
		case impl.LineChange, impl.LineHalfwise:
			if before[1:] != behind[1:] || levels[0] != 0 && before[0] == behind[0] {
				t.Errorf("%s of the kind %d are read as %s, and turned as %s", name, kind, before, behind)
			}
		case impl.LineAlternate, impl.LineThree:
			if before != behind {
				t.Errorf("%s of the kind %d are read as %s, and turned as %s", name, kind, before, behind)
			}
		}
	}
}

func TestPromise11TurnedLevels(t *testing.T) {
	source := rand.New(rand.NewSource(177))
	for _, levels := range listsUpTo(7, -1, 0, 1) {
		checkTurned(t, levels)
	}
	for _, count := range []int{200, 399, 400, 401, 799, 800} {
		checkTurned(t, drawnLevels(source, count))
		checkTurned(t, repeated[int64](1, count))
		checkTurned(t, repeated[int64](-1, count))
		checkTurned(t, repeated[int64](0, count))
	}
}

// The turned levels of bits are those of bits that are known.
func TestPromise11TurnedLevelsOfBits(t *testing.T) {
	source := rand.New(rand.NewSource(178))
	for _, bits := range append(textsUpTo(8), longBits(source, 400)...) {
		for _, kind := range lineKinds {
			turned, _ := impl.TurnLevels(levelsIn(textReference(kind, bits)))
			want := bits
			switch {
			case kind == impl.LineStraight || kind == impl.LineHalves:
				want = invertedBits(bits)
			case (kind == impl.LineChange || kind == impl.LineHalfwise) && bits != "":
				want = withChange(bits, 0)
			}
			expect(t, []row{{fmt.Sprint("ReadLevels ", kind, " turned ", bits), show(impl.ReadLevels(kind, turned)), show(want, true)}})
		}
	}
}

// worstReference returns how long a flat part can be that bits of a kind have.
func worstReference(kind, count int64) int64 {
	if widthReference(kind) == 2 {
		return min(count, 2)
	}
	return count
}

func TestPromise11WorstFlat(t *testing.T) {
	source := rand.New(rand.NewSource(179))
	for _, kind := range lineKinds {
		for count := int64(1); count <= 10; count++ {
			worst := 0
			for _, bits := range textsOf(count) {
				worst = max(worst, flatReference(textReference(kind, bits)))
			}
			expect(t, []row{
				{fmt.Sprint("WorstFlat by trying ", kind, count), show(impl.WorstFlat(kind, count)), show(worst, true)},
				{fmt.Sprint("the worst of the reference ", kind, count), show(worst), show(worstReference(kind, count))},
			})
		}
		for count := int64(1); count <= 400; count++ {
			expect(t, []row{{fmt.Sprint("WorstFlat ", kind, count), show(impl.WorstFlat(kind, count)), show(worstReference(kind, count), true)}})
		}
		for _, count := range []int{20, 64, 399, 400} {
			worst, _ := impl.WorstFlat(kind, int64(count))
			var longest int64
			for _, bits := range longBits(source, count) {
				flat, _ := impl.LongestFlat(levelsIn(textReference(kind, bits)))
				longest = max(longest, flat)
			}
			expect(t, []row{{fmt.Sprint("the longest of long bits ", kind, count), show(longest), show(worst)}})
		}
	}
}

func TestPromise11WorstFlatThatFails(t *testing.T) {
	for _, kind := range append(slices.Clone(lineKinds), notKinds...) {
		for _, count := range []int64{0, -1, -400, 401, 402, 800, 1 << 32, 1<<32 + 1, math.MinInt64, math.MinInt64 + 1, math.MaxInt64 - 1, math.MaxInt64} {
			expect(t, []row{{fmt.Sprint("WorstFlat ", kind, count), show(impl.WorstFlat(kind, count)), noNumber}})
		}
	}
	for _, kind := range notKinds {
		for _, count := range []int64{1, 2, 3, 399, 400} {
			expect(t, []row{{fmt.Sprint("WorstFlat ", kind, count), show(impl.WorstFlat(kind, count)), noNumber}})
		}
	}
}

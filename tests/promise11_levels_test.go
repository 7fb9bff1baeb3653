package tests

import (
	"fmt"
	"math"
	"math/rand"
	"strings"
	"testing"

	"loop.example/g01142/impl"
)

var lineKinds = []int64{
	impl.LineStraight, impl.LineChange, impl.LineHalves, impl.LineHalfwise, impl.LineAlternate, impl.LineThree,
}

// notKinds are numbers that are no kind of levels.
var notKinds = []int64{
	-1, -2, -6, 6, 7, 12, 255, 256, 1 << 32, 1<<32 + 1, -1 << 32, 5 - 1<<32,
	math.MinInt64, math.MinInt64 + 1, math.MinInt64 + 5, math.MaxInt64 - 5, math.MaxInt64 - 1, math.MaxInt64,
}

// notLevels are lists in which not all numbers are levels, or too many.
var notLevels = [][]int64{
	{2}, {-2}, {3}, {-3}, {43}, {45}, {48}, {255}, {256}, {257}, {-255}, {-256}, {1 << 32}, {1<<32 + 1}, {1<<32 - 1}, {-1 << 32}, {1 << 62},
	{math.MinInt64}, {math.MinInt64 + 1}, {math.MaxInt64 - 1}, {math.MaxInt64}, {1, 2}, {-2, 1}, {1, -1, 1, -1, 5, -1}, {0, 0, math.MinInt64}, {math.MaxInt64, 0},
	append(repeated[int64](1, 399), 2), append(repeated[int64](-1, 799), -2), append([]int64{2}, repeated[int64](0, 799)...),
	repeated[int64](2, 800), repeated[int64](0, 801), repeated[int64](1, 801), repeated[int64](-1, 802), repeated[int64](0, 1600), repeated[int64](1, 100000),
}

// widthReference returns how many levels a bit has.
func widthReference(kind int64) int {
	if kind == impl.LineHalves || kind == impl.LineHalfwise {
		return 2
	}
	return 1
}

// textReference returns the text of the levels of bits. What a bit becomes depends on how many bits are 1 up to it.
func textReference(kind int64, bits string) string {
	text := ""
	ones := 0
	for _, bit := range bits {
		zero := bit == '0'
		if !zero {
			ones++
		}
		var level string
		switch kind {
		case impl.LineStraight:
			level = "+"
			if zero {
				level = "-"
			}
		case impl.LineChange:
			level = []string{"-", "+"}[ones%2]
		case impl.LineHalves:
			level = "-+"
			if zero {
				level = "+-"
			}
		case impl.LineHalfwise:
			level = []string{"+-", "-+"}[ones%2]
		case impl.LineAlternate:
			level = []string{"-", "+"}[ones%2]
			if zero {
				level = "0"
			}
		case impl.LineThree:
			level = []string{"0", "+", "0", "-"}[ones%4]
		}
		text += level
	}
	return text
}

// levelsIn returns the levels with a text.
func levelsIn(text string) []int64 {
	levels := []int64{}
	for _, sign := range text {
		levels = append(levels, map[rune]int64{'-': -1, '0': 0, '+': 1}[sign])
	}
	return levels
}

// textWith returns the text of levels.
func textWith(levels []int64) string {
	text := ""
	for _, level := range levels {
		text += map[int64]string{-1: "-", 0: "0", 1: "+"}[level]
	}
	return text
}

// checkLevels compares the levels of bits with those of the reference, and reads them.
func checkLevels(t *testing.T, kind int64, bits string) {
	t.Helper()
	name := fmt.Sprint(kind, " ", bits)
	levels := levelsIn(textReference(kind, bits))
	expect(t, []row{
		{"LevelsOf " + name, show(impl.LevelsOf(kind, bits)), show(levels, true)},
		{"BitsOfLevels of those of " + name, show(impl.BitsOfLevels(kind, levels)), show(bits, true)},
		{"ReadLevels of those of " + name, show(impl.ReadLevels(kind, levels)), show(bits, true)},
		{"FirstWrong of those of " + name, show(impl.FirstWrong(kind, levels)), noNumber},
	})
}

func TestPromise11LevelsOfFewBits(t *testing.T) {
	for _, kind := range lineKinds {
		for _, bits := range textsUpTo(10) {
			checkLevels(t, kind, bits)
		}
	}
}

// longBits returns bits with a length of all sorts.
func longBits(source *rand.Rand, length int) []string {
	texts := []string{drawnBits(source, int64(length)), drawnBits(source, int64(length))}
	for _, part := range []string{"0", "1", "01", "10", "110", "0111", "00001", "1000000"} {
		texts = append(texts, strings.Repeat(part, length)[:length])
	}
	return append(texts, strings.Repeat("0", length-1)+"1", "1"+strings.Repeat("0", length-1))
}

func TestPromise11LevelsOfManyBits(t *testing.T) {
	source := rand.New(rand.NewSource(171))
	for _, kind := range lineKinds {
		for _, length := range []int{20, 63, 64, 65, 199, 200, 201, 398, 399, 400} {
			for _, bits := range longBits(source, length) {
				checkLevels(t, kind, bits)
			}
		}
	}
}

func TestPromise11LevelsAsWritten(t *testing.T) {
	for _, c := range []struct {
		kind   int64
		bits   string
		levels string
	}{
		{impl.LineStraight, "", ""}, {impl.LineChange, "", ""}, {impl.LineHalves, "", ""},
		{impl.LineHalfwise, "", ""}, {impl.LineAlternate, "", ""}, {impl.LineThree, "", ""},
		{impl.LineStraight, "0", "-"}, {impl.LineStraight, "1", "+"}, {impl.LineHalves, "0", "+-"}, {impl.LineHalves, "1", "-+"},
		// The level before the first one.
		{impl.LineChange, "0", "-"}, {impl.LineChange, "1", "+"}, {impl.LineHalfwise, "0", "+-"}, {impl.LineHalfwise, "1", "-+"},
		{impl.LineAlternate, "0", "0"}, {impl.LineAlternate, "1", "+"}, {impl.LineThree, "0", "0"}, {impl.LineThree, "1", "+"},
		{impl.LineChange, "0011", "--+-"}, {impl.LineHalfwise, "0011", "+-+--++-"}, {impl.LineThree, "0011", "00+0"},
		// Bits 1 by turns with bits 0 between them.
		{impl.LineAlternate, "0101010", "0+0-0+0"}, {impl.LineAlternate, "10010001", "+00-000+"}, {impl.LineAlternate, "1111", "+-+-"},
		{impl.LineThree, "0101010101", "0++00--00+"}, {impl.LineThree, "10010001001", "+++0000---0"}, {impl.LineThree, "11111", "+0-0+"},
		{impl.LineStraight, "1101", "++-+"}, {impl.LineChange, "1101", "+--+"}, {impl.LineHalves, "1101", "-+-++--+"},
		{impl.LineHalfwise, "1101", "-++-+--+"}, {impl.LineAlternate, "1101", "+-0+"}, {impl.LineThree, "1101", "+00-"},
	} {
		expect(t, []row{
			{fmt.Sprint("LevelsOf ", c.kind, c.bits), show(impl.LevelsOf(c.kind, c.bits)), show(levelsIn(c.levels), true)},
			{fmt.Sprint("the levels of the reference ", c.kind, c.bits), textReference(c.kind, c.bits), c.levels},
		})
		checkLevels(t, c.kind, c.bits)
	}
}

func TestPromise11KindsAndLimits(t *testing.T) {
	expect(t, []row{
		{"MaxLevels", show(impl.MaxLevels), "800"},
		{"the kinds", show(lineKinds), "[0 1 2 3 4 5]"},
	})
}

func TestPromise11LevelsThatFail(t *testing.T) {
	for _, kind := range notKinds {
		for _, bits := range []string{"", "0", "1", "01", "1101", strings.Repeat("1", 400), strings.Repeat("0", 401), "2"} {
			expect(t, []row{{fmt.Sprint("LevelsOf ", kind, bits), show(impl.LevelsOf(kind, bits)), noList}})
		}
	}
	for _, kind := range lineKinds {
		for _, bits := range append(withoutBits(400), append(withoutBits(2), notBits...)...) {
			expect(t, []row{{fmt.Sprint("LevelsOf ", kind, bits), show(impl.LevelsOf(kind, bits)), noList}})
		}
	}
}

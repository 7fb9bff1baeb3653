package tests

import (
	"fmt"
	"math/rand"
	"slices"
	"strings"
	"testing"

	"loop.example/g01142/impl"
)

// readReference returns as which bits the levels with a text are read, if pairs are whole.
func readReference(kind int64, text string) string {
	bits := ""
	width := widthReference(kind)
	for i := 0; i < len(text); i += width {
		// What is before the first level counts for some kinds only.
		before := "-"
		if kind == impl.LineThree {
			before = "0"
		}
		if i > 0 {
			before = text[i-1 : i]
		}
		level := text[i : i+1]
		var isOne bool
		switch kind {
		case impl.LineStraight:
			isOne = level == "+"
		case impl.LineChange, impl.LineThree:
			isOne = level != before
		case impl.LineHalves:
			isOne = slices.Contains([]string{"-0", "-+", "0+"}, text[i:i+2])
		case impl.LineHalfwise:
			isOne = level == before
		case impl.LineAlternate:
			isOne = level != "0"
		}
		if isOne {
			bits += "1"
		} else {
			bits += "0"
		}
	}
	return bits
}

// linesOf returns for each kind all texts of levels of at most so many bits.
func linesOf(kind int64, most int) map[string]string {
	lines := map[string]string{}
	for _, bits := range textsUpTo(most) {
		lines[textReference(kind, bits)] = bits
	}
	return lines
}

// checkLevelsRead compares what levels are read as, and whether bits have them.
func checkLevelsRead(t *testing.T, kind int64, levels []int64, lines map[string]string) {
	t.Helper()
	name := fmt.Sprint(kind, levels)
	read, bitsOf := noText, noText
	if len(levels)%widthReference(kind) == 0 {
		read = show(readReference(kind, textWith(levels)), true)
	}
	if bits, ok := lines[textWith(levels)]; ok {
		bitsOf = show(bits, true)
		if read != bitsOf {
			t.Errorf("%s are read as %s, and they are the levels of %s", name, read, bitsOf)
		}
	}
	expect(t, []row{
		{"ReadLevels " + name, show(impl.ReadLevels(kind, levels)), read},
		{"BitsOfLevels " + name, show(impl.BitsOfLevels(kind, levels)), bitsOf},
	})
}

func TestPromise11FewLevelsAreRead(t *testing.T) {
	for _, kind := range lineKinds {
		lines := linesOf(kind, 8)
		for _, levels := range listsUpTo(8, -1, 0, 1) {
			checkLevelsRead(t, kind, levels, lines)
		}
	}
}

// drawnLevels returns levels.
func drawnLevels(source *rand.Rand, count int) []int64 {
	levels := make([]int64, count)
	for i := range levels {
		levels[i] = source.Int63n(3) - 1
	}
	return levels
}

// mostLevels returns how many levels the most bits have.
func mostLevels(kind int64) int { return 400 * widthReference(kind) }

func TestPromise11ManyLevelsAreRead(t *testing.T) {
	source := rand.New(rand.NewSource(172))
	for _, kind := range lineKinds {
		for _, count := range []int{9, 10, 63, 64, 65, 200, 397, 398, 399, 400, 401, 402, 600, 797, 798, 799, 800} {
			for _, levels := range [][]int64{
				drawnLevels(source, count), drawnLevels(source, count),
				repeated[int64](-1, count), repeated[int64](0, count), repeated[int64](1, count),
			} {
				name := fmt.Sprint(kind, " ", count)
				want := noText
				if count <= mostLevels(kind) && count%widthReference(kind) == 0 {
					want = show(readReference(kind, textWith(levels)), true)
				}
				expect(t, []row{{"ReadLevels " + name, show(impl.ReadLevels(kind, levels)), want}})
			}
		}
	}
}

// Pairs that are not whole are not read, whatever comes before them.
func TestPromise11PairsThatAreNotWhole(t *testing.T) {
	source := rand.New(rand.NewSource(173))
	for _, kind := range []int64{impl.LineHalves, impl.LineHalfwise} {
		for _, count := range []int64{0, 1, 2, 7, 199, 398, 399} {
			levels := levelsIn(textReference(kind, drawnBits(source, count)))
			for half := int64(-1); half <= 1; half++ {
				list := append(slices.Clone(levels), half)
				wrong := noNumber
				if half == 0 {
					wrong = show(2*count, true)
				}
				name := fmt.Sprint(kind, list)
				expect(t, []row{
					{"ReadLevels " + name, show(impl.ReadLevels(kind, list)), noText},
					{"BitsOfLevels " + name, show(impl.BitsOfLevels(kind, list)), noText},
					{"FirstWrong " + name, show(impl.FirstWrong(kind, list)), wrong},
				})
			}
		}
	}
}

func TestPromise11ReadingAsWritten(t *testing.T) {
	expect(t, []row{
		// The level before the first one.
		{"change +", show(impl.ReadLevels(impl.LineChange, levelsIn("+"))), `"1" true`},
		{"change -", show(impl.ReadLevels(impl.LineChange, levelsIn("-"))), `"0" true`},
		{"change 0", show(impl.ReadLevels(impl.LineChange, levelsIn("0"))), `"1" true`},
		{"halfwise +-", show(impl.ReadLevels(impl.LineHalfwise, levelsIn("+-"))), `"0" true`},
		{"halfwise -+", show(impl.ReadLevels(impl.LineHalfwise, levelsIn("-+"))), `"1" true`},
		{"halfwise --", show(impl.ReadLevels(impl.LineHalfwise, levelsIn("--"))), `"1" true`},
		{"halfwise 0-", show(impl.ReadLevels(impl.LineHalfwise, levelsIn("0-"))), `"0" true`},
		{"three +", show(impl.ReadLevels(impl.LineThree, levelsIn("+"))), `"1" true`},
		{"three -", show(impl.ReadLevels(impl.LineThree, levelsIn("-"))), `"1" true`},
		{"three 0", show(impl.ReadLevels(impl.LineThree, levelsIn("0"))), `"0" true`},
		// Levels that no bits have.
		{"straight 0", show(impl.ReadLevels(impl.LineStraight, levelsIn("0+0-"))), `"0100" true`},
		{"change 00", show(impl.ReadLevels(impl.LineChange, levelsIn("00-0+"))), `"10111" true`},
		{"halves ++", show(impl.ReadLevels(impl.LineHalves, levelsIn("++--00"))), `"000" true`},
		{"halves 0+", show(impl.ReadLevels(impl.LineHalves, levelsIn("0+-0+00-"))), `"1100" true`},
		{"halfwise 00", show(impl.ReadLevels(impl.LineHalfwise, levelsIn("0000++"))), `"010" true`},
		{"alternate ++", show(impl.ReadLevels(impl.LineAlternate, levelsIn("-++0--"))), `"111011" true`},
		{"three +-", show(impl.ReadLevels(impl.LineThree, levelsIn("+--+0+"))), `"110111" true`},
		{"bits of straight 0", show(impl.BitsOfLevels(impl.LineStraight, levelsIn("+0"))), noText},
		{"bits of change 0", show(impl.BitsOfLevels(impl.LineChange, levelsIn("0"))), noText},
		{"bits of halves ++", show(impl.BitsOfLevels(impl.LineHalves, levelsIn("++"))), noText},
		{"bits of halfwise --", show(impl.BitsOfLevels(impl.LineHalfwise, levelsIn("--"))), noText},
		{"bits of alternate -", show(impl.BitsOfLevels(impl.LineAlternate, levelsIn("-"))), noText},
		{"bits of alternate +0+", show(impl.BitsOfLevels(impl.LineAlternate, levelsIn("+0+"))), noText},
		{"bits of three -", show(impl.BitsOfLevels(impl.LineThree, levelsIn("-"))), noText},
		{"bits of three +-", show(impl.BitsOfLevels(impl.LineThree, levelsIn("+-"))), noText},
		{"bits of three +0+", show(impl.BitsOfLevels(impl.LineThree, levelsIn("+0+"))), noText},
	})
}

// readingFails requires that levels are neither read nor those of bits, and have no first wrong one.
func readingFails(t *testing.T, kind int64, levels []int64) {
	t.Helper()
	name := fmt.Sprint(kind, levels)
	expect(t, []row{
		{"ReadLevels " + name, show(impl.ReadLevels(kind, levels)), noText},
		{"BitsOfLevels " + name, show(impl.BitsOfLevels(kind, levels)), noText},
		{"FirstWrong " + name, show(impl.FirstWrong(kind, levels)), noNumber},
	})
}

func TestPromise11ReadingThatFails(t *testing.T) {
	for _, kind := range notKinds {
		for _, levels := range append([][]int64{nil, {}, {0}, {1, -1}, levelsIn("+--+"), repeated[int64](-1, 400), repeated[int64](1, 800)}, notLevels...) {
			readingFails(t, kind, levels)
		}
	}
	for _, kind := range lineKinds {
		for _, levels := range notLevels {
			readingFails(t, kind, levels)
		}
	}
}

// More levels than the most bits have: these would go on without an error.
func TestPromise11MoreLevelsThanBitsHave(t *testing.T) {
	for _, kind := range lineKinds {
		for _, part := range []string{"0", "1", "01", "110"} {
			bits := strings.Repeat(part, 800)
			most := mostLevels(kind)
			checkLevels(t, kind, bits[:400])
			for _, count := range []int{most + 1, most + 2, 2*most - 1, 2 * most} {
				readingFails(t, kind, levelsIn(textReference(kind, bits)[:count]))
			}
		}
		// With an error as well.
		readingFails(t, kind, repeated[int64](0, mostLevels(kind)+1))
		readingFails(t, kind, append([]int64{0}, repeated[int64](1, mostLevels(kind))...))
	}
}

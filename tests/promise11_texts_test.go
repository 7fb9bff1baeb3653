package tests

import (
	"fmt"
	"math/rand"
	"strings"
	"testing"

	"loop.example/g01142/impl"
)

func checkLevelsText(t *testing.T, levels []int64) {
	t.Helper()
	name := fmt.Sprint(levels)
	text := textWith(levels)
	expect(t, []row{
		{"LevelsText " + name, show(impl.LevelsText(levels)), show(text, true)},
		{"ReadLevelsText " + text, show(impl.ReadLevelsText(text)), show(levels, true)},
	})
}

func TestPromise11TextsOfLevels(t *testing.T) {
	source := rand.New(rand.NewSource(180))
	for _, levels := range listsUpTo(7, -1, 0, 1) {
		checkLevelsText(t, levels)
	}
	for _, count := range []int{100, 399, 400, 401, 799, 800} {
		checkLevelsText(t, drawnLevels(source, count))
		for level := int64(-1); level <= 1; level++ {
			checkLevelsText(t, repeated(level, count))
		}
	}
	expect(t, []row{
		{"no levels", show(impl.LevelsText(nil)), `"" true`},
		{"the text of no levels", show(impl.ReadLevelsText("")), "[] true"},
		{"-0+", show(impl.LevelsText([]int64{-1, 0, 1})), `"-0+" true`},
		{"the levels of +-0", show(impl.ReadLevelsText("+-0")), "[1 -1 0] true"},
	})
}

// No byte but three of them is the text of a level, wherever it stands.
func TestPromise11TextsWithOtherBytes(t *testing.T) {
	for other := range 256 {
		byteText := string([]byte{byte(other)})
		if strings.Contains("-0+", byteText) {
			continue
		}
		for _, text := range []string{
			byteText, byteText + "+", "+" + byteText, "-0" + byteText + "0-", byteText + byteText,
			strings.Repeat("0", 799) + byteText, byteText + strings.Repeat("+", 799), strings.Repeat("-", 400) + byteText + strings.Repeat("-", 399),
		} {
			expect(t, []row{{fmt.Sprintf("ReadLevelsText %q", text), show(impl.ReadLevelsText(text)), noList}})
		}
	}
}

func TestPromise11TextsThatFail(t *testing.T) {
	for _, text := range []string{
		"+1", "-1", "1", "+-0 ", " +-0", "+ -", "++-+\n", "none", "+,-", "\u2212", "\uff0b", "\uff10", "\u0966", "+\u00b1", "\ufffd", "+\ufffd-", "\xff\xfe", "\xe2\x88",
		strings.Repeat("0", 801), strings.Repeat("+", 801), strings.Repeat("-", 802), strings.Repeat("+-0", 267), strings.Repeat("+", 100000), strings.Repeat("\uff0b", 267),
	} {
		expect(t, []row{{fmt.Sprintf("ReadLevelsText %q", text), show(impl.ReadLevelsText(text)), noList}})
	}
}

package tests

import (
	"fmt"
	"math/rand"
	"strings"
	"testing"

	"loop.example/g01142/impl"
)

// errorsReference returns where bits are wrong: the bits before the first one are 0.
func errorsReference(taps []int64, errors string) string {
	return backReference(scramblerOf(strings.Repeat("0", 16), taps...), errors)
}

// checkErrors compares where bits are wrong with what differs when scrambled bits are changed.
func checkErrors(t *testing.T, s impl.Scrambler, bits, errors string) {
	t.Helper()
	want := errorsReference(s.Taps, errors)
	sent := selfReference(s, bits)
	received, ok := impl.SelfDescramble(s, differences(sent, errors))
	expect(t, []row{
		{fmt.Sprint("ErrorsBehind ", s, errors), show(impl.ErrorsBehind(s, errors)), show(want, true)},
		{fmt.Sprint("SelfDescramble of changed bits ", s, sent, errors), show(received, ok), show(differences(bits, want), true)},
	})
}

func TestPromise7AllShortErrors(t *testing.T) {
	source := rand.New(rand.NewSource(91))
	for width := int64(1); width <= 5; width++ {
		for _, taps := range tapSets(width) {
			for _, errors := range textsUpTo(8) {
				s := scramblerOf(drawnBits(source, width), taps...)
				checkErrors(t, s, drawnBits(source, int64(len(errors))), errors)
			}
		}
	}
}

func TestPromise7LongErrors(t *testing.T) {
	source := rand.New(rand.NewSource(92))
	for _, s := range largeScramblers(source) {
		for _, length := range lengthsAround(s) {
			checkErrors(t, s, drawnBits(source, length), drawnBits(source, length))
		}
		for _, errors := range longTexts(source, 400) {
			checkErrors(t, s, drawnBits(source, 400), errors)
		}
	}
}

// One error makes as many wrong bits as told, if enough bits follow, and fewer at the end.
func TestPromise7OneErrorSpreads(t *testing.T) {
	source := rand.New(rand.NewSource(93))
	for _, s := range largeScramblers(source) {
		want := 1 + len(s.Taps)
		expect(t, []row{{fmt.Sprint("SpreadOf ", s), show(impl.SpreadOf(s)), show(want, true)}})
		for _, length := range []int{1, 2, 16, 17, 18, 40} {
			for at := range length {
				inside := 1
				for _, tap := range s.Taps {
					if at+int(tap) < length {
						inside++
					}
				}
				errors := withChange(strings.Repeat("0", length), at)
				wrong, ok := impl.ErrorsBehind(s, errors)
				if !ok || strings.Count(wrong, "1") != inside || strings.Contains(wrong[:at], "1") {
					t.Errorf("ErrorsBehind %v %s: %s %v", s, errors, wrong, ok)
				}
				if at+len(s.State) < length && inside != want {
					t.Errorf("%v: %d bits are wrong behind one error", s, inside)
				}
			}
		}
	}
}

// Errors that are scrambled themselves undo each other: what was scrambled is left.
func TestPromise7ErrorsUndoEachOther(t *testing.T) {
	source := rand.New(rand.NewSource(94))
	for _, s := range largeScramblers(source) {
		zeros := scramblerOf(strings.Repeat("0", len(s.State)), s.Taps...)
		for _, left := range []string{"1" + strings.Repeat("0", 399), strings.Repeat("0", 399) + "1", drawnBits(source, 400), strings.Repeat("0", 400)} {
			errors := selfReference(zeros, left)
			expect(t, []row{{fmt.Sprint("ErrorsBehind ", s, errors), show(impl.ErrorsBehind(s, errors)), show(left, true)}})
		}
	}
}

// The state has nothing to do with errors.
func TestPromise7ErrorsOfAllStates(t *testing.T) {
	for _, s := range smallScramblers(4) {
		for _, errors := range []string{"", "1", "11", "1000", "10110", "00000001", "11111111"} {
			expect(t, []row{
				{fmt.Sprint("ErrorsBehind ", s, errors), show(impl.ErrorsBehind(s, errors)), show(errorsReference(s.Taps, errors), true)},
				{fmt.Sprint("SpreadOf ", s), show(impl.SpreadOf(s)), show(len(s.Taps)+1, true)},
			})
		}
	}
}

func TestPromise7ErrorExamples(t *testing.T) {
	s := scramblerOf("100", 1, 3)
	one := scramblerOf("1", 1)
	all := scramblerOf(strings.Repeat("1", 16), tapsFrom(1, 16)...)
	far := scramblerOf(strings.Repeat("1", 16), 16)
	expect(t, []row{
		{"the document's error", show(impl.ErrorsBehind(s, "1000")), `"1101" true`},
		{"its spread", show(impl.SpreadOf(s)), "3 true"},
		{"no bits", show(impl.ErrorsBehind(s, "")), `"" true`},
		{"no errors", show(impl.ErrorsBehind(s, "0000")), `"0000" true`},
		{"the first bit alone", show(impl.ErrorsBehind(s, "1")), `"1" true`},
		{"the last bit", show(impl.ErrorsBehind(s, "0001")), `"0001" true`},
		{"the last bits", show(impl.ErrorsBehind(s, "0011")), `"0010" true`},
		{"two errors in a place", show(impl.ErrorsBehind(s, "1010000")), `"1110010" true`},
		{"three errors in a place", show(impl.ErrorsBehind(s, "1001100")), `"1100011" true`},
		{"errors that undo each other", show(impl.ErrorsBehind(one, "1111")), `"1000" true`},
		{"an error that is undone in between", show(impl.ErrorsBehind(one, "0110")), `"0101" true`},
		{"all taps", show(impl.ErrorsBehind(all, "1"+strings.Repeat("0", 18))), show(strings.Repeat("1", 17)+"00", true)},
		{"all taps, two errors", show(impl.ErrorsBehind(all, "11"+strings.Repeat("0", 17))), show("1"+strings.Repeat("0", 16)+"10", true)},
		{"the greatest spread", show(impl.SpreadOf(all)), "17 true"},
		{"the least spread", show(impl.SpreadOf(far)), "2 true"},
		{"the spread of the width 1", show(impl.SpreadOf(one)), "2 true"},
		{"one far tap", show(impl.ErrorsBehind(far, "1"+strings.Repeat("0", 16))), show("1"+strings.Repeat("0", 15)+"1", true)},
		{"one bit less than one far tap", show(impl.ErrorsBehind(far, "1"+strings.Repeat("0", 15))), show("1"+strings.Repeat("0", 15), true)},
		{"errors as far as one tap", show(impl.ErrorsBehind(far, "1"+strings.Repeat("0", 15)+"1")), show("1"+strings.Repeat("0", 16), true)},
		{"400 errors", show(impl.ErrorsBehind(far, strings.Repeat("1", 400))), show(strings.Repeat("1", 16)+strings.Repeat("0", 384), true)},
	})
}

func TestPromise7LongestSame(t *testing.T) {
	source := rand.New(rand.NewSource(95))
	texts := textsUpTo(10)
	for _, length := range []int64{11, 60, 399, 400} {
		texts = append(texts, longTexts(source, length)...)
	}
	for _, bits := range texts {
		expect(t, []row{{"LongestSame " + bits, show(impl.LongestSame(bits)), show(longestRunOf(bits), true)}})
	}
	for length := range 401 {
		turns := strings.Repeat("01", 200)[:length]
		expect(t, []row{
			{fmt.Sprint("LongestSame of bits 0 ", length), show(impl.LongestSame(strings.Repeat("0", length))), show(length, true)},
			{fmt.Sprint("LongestSame of bits 1 ", length), show(impl.LongestSame(strings.Repeat("1", length))), show(length, true)},
			{fmt.Sprint("LongestSame of bits without equal neighbours ", length), show(impl.LongestSame(turns)), show(min(length, 1), true)},
		})
	}
}

func TestPromise7LongestSameExamples(t *testing.T) {
	expect(t, []row{
		{"in the middle", show(impl.LongestSame("011101")), "3 true"},
		{"no bits", show(impl.LongestSame("")), "0 true"},
		{"one bit", show(impl.LongestSame("0")), "1 true"},
		{"at the beginning", show(impl.LongestSame("0001101")), "3 true"},
		{"at the end", show(impl.LongestSame("010011110000")), "4 true"},
		{"bits 1 at the end", show(impl.LongestSame("01001111")), "4 true"},
		{"a key", show(impl.LongestSame("1101001110")), "3 true"},
		{"400 bits", show(impl.LongestSame(strings.Repeat("1", 400))), "400 true"},
		{"401 bits", show(impl.LongestSame(strings.Repeat("1", 401))), noNumber},
	})
}

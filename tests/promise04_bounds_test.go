package tests

import (
	"fmt"
	"math/rand"
	"strings"
	"testing"

	"loop.example/g01142/impl"
)

// mostTried is how many lines with more than two words are tried at most for a start.
const mostTried = 5000

func sumText(c impl.BlockCode) string { return show(impl.SumRange(c)) }

// linesByTrying returns all lines of as many words as can be tried, at least two, for each start.
func linesByTrying(c impl.BlockCode) map[int64][]string {
	lines := map[int64][]string{}
	for _, start := range []int64{-1, 1} {
		longer := []string{""}
		for words := 0; words < 2 || len(longer)<<c.Data <= mostTried && words < 7; words++ {
			shorter := longer
			longer = nil
			for _, line := range shorter {
				for _, word := range wordsBy(c, start+int64(disparityReference(line))) {
					longer = append(longer, line+word)
				}
			}
		}
		lines[start] = longer
	}
	return lines
}

// sumsOf returns the least and the greatest sum of a line.
func sumsOf(line string, start int64) (int64, int64) {
	least, greatest, sum := start, start, start
	for _, digit := range line {
		if digit == '1' {
			sum++
		} else {
			sum--
		}
		least, greatest = min(least, sum), max(greatest, sum)
	}
	return least, greatest
}

// longestRunOf returns the length of the longest run of bits.
func longestRunOf(s string) int {
	length := 0
	for strings.Contains(s, strings.Repeat("0", length+1)) || strings.Contains(s, strings.Repeat("1", length+1)) {
		length++
	}
	return length
}

func TestPromise4BoundsByTrying(t *testing.T) {
	for _, c := range sampleCodes() {
		least, greatest, longest := int64(-1), int64(1), 0
		for start, lines := range linesByTrying(c) {
			for _, line := range lines {
				low, high := sumsOf(line, start)
				least, greatest = min(least, low), max(greatest, high)
				longest = max(longest, longestRunOf(line))
			}
		}
		expect(t, []row{
			{fmt.Sprint("SumRange ", c), sumText(c), show(least, greatest, true)},
			{fmt.Sprint("RunBound ", c), show(impl.RunBound(c)), show(longest, true)},
		})
	}
}

func TestPromise4LongLinesStayWithinTheBounds(t *testing.T) {
	source := rand.New(rand.NewSource(3))
	for _, c := range sampleCodes() {
		least, greatest, _ := impl.SumRange(c)
		longest, _ := impl.RunBound(c)
		for _, start := range []int64{-1, 1} {
			sent, state, ok := impl.EncodeBlocks(c, start, drawnData(source, c, impl.MaxBits/c.Width))
			low, high := sumsOf(sent, start)
			if !ok || low < least || high > greatest || int64(longestRunOf(sent)) > longest {
				t.Errorf("%v: %s is not within the sums %d to %d and the run %d", c, sent, least, greatest, longest)
			}
			if sum := start + int64(disparityReference(sent)); sum != state {
				t.Errorf("%v: the sum behind %s from %d is %d, not the state %d", c, sent, start, sum, state)
			}
		}
	}
}

func TestPromise4BoundsOfExamples(t *testing.T) {
	pair, _ := makeReference(1, 2)
	made, _ := makeReference(3, 4)
	wide, _ := makeReference(1, 12)
	for _, c := range []struct {
		why  string
		code impl.BlockCode
		sums string
		run  string
	}{
		{"1 and 2", pair, "-2 2 true", "2 true"},
		{"3 and 4", made, "-3 3 true", "5 true"},
		{"1 and 12: 000000111111 and 000001011111", wide, "-7 1 true", "6 true"},
		{"01, 11, 10 and 10, 00, 01", codeOf(1, 2, []string{"01", "11"}, []string{"10", "00"}), "-2 2 true", "4 true"},
		{"the sum is nowhere farther than a state", codeOf(1, 2, []string{"10", "11"}, []string{"01", "00"}), "-1 1 true", "2 true"},
		{"01 11 01 and 01 00 01", codeOf(1, 2, []string{"01", "11"}, []string{"01", "00"}), "-2 1 true", "3 true"},
		{"bits 1 farther than bits 0", codeOf(1, 4, []string{"1010", "1110"}, []string{"1010", "1100"}), "-1 3 true", "3 true"},
		{"0111 1000 0111", codeOf(1, 4, []string{"0111", "1011"}, []string{"1000", "0100"}), "-2 2 true", "4 true"},
		{"1110 0001 1110", codeOf(1, 4, []string{"1110", "1101"}, []string{"0001", "0010"}), "-2 2 true", "4 true"},
		{"the sum -1 before the first bit only", codeOf(1, 4, []string{"1101", "1011"}, []string{"1100", "1010"}), "-1 3 true", "4 true"},
		{"the sum 1 before the first bit only", codeOf(1, 4, []string{"0011", "0101"}, []string{"0010", "0001"}), "-3 1 true", "3 true"},
		{"words of Minus can come first only", codeOf(1, 4, []string{"1011", "1101"}, []string{"0110", "0011"}), "-1 2 true", "3 true"},
	} {
		expect(t, []row{
			{"SumRange, " + c.why, sumText(c.code), c.sums},
			{"RunBound, " + c.why, show(impl.RunBound(c.code)), c.run},
		})
	}
}

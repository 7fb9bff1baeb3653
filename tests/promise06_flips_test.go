package tests

import (
	"fmt"
	"math"
	"math/rand"
	"slices"
	"strings"
	"testing"

	"loop.example/g01142/impl"
)

// endsOf returns the places of bits at which words of a complete code end for a reader that reads all of them.
func endsOf(words []string, s string) []int {
	var ends []int
	place := 0
	for i := range len(s) {
		if slices.Contains(words, s[place:i+1]) {
			place = i + 1
			ends = append(ends, place)
		}
	}
	return ends
}

// lossReference returns what FlipLoss does for symbols of a complete code and a bit of their words.
func lossReference(words []string, symbols []int64, at int) string {
	sent := wordsOf(words, symbols)
	changed := sent[:at] + invertedBits(sent[at:at+1]) + sent[at+1:]
	ends, others := endsOf(words, sent), endsOf(words, changed)
	lost := 0
	for _, end := range ends {
		if end <= at {
			continue
		}
		lost++
		if slices.Contains(others, end) {
			return show(lost, end, true)
		}
	}
	return noLoss
}

// checkFlips compares the loss by each bit of some symbols, and returns for how many of them there is none.
func checkFlips(t *testing.T, words []string, symbols []int64) int {
	t.Helper()
	none := 0
	for at := range wordsOf(words, symbols) {
		want := lossReference(words, symbols, at)
		expect(t, []row{{fmt.Sprint("FlipLoss ", words, symbols, at), show(impl.FlipLoss(words, symbols, int64(at))), want}})
		if want == noLoss {
			none++
		}
	}
	return none
}

func TestPromise6FlipsOfAllBits(t *testing.T) {
	none := 0
	for count := 2; count <= 5; count++ {
		numbers := make([]int64, count)
		for i := range numbers {
			numbers[i] = int64(i)
		}
		for _, words := range completeCodes(count) {
			for _, symbols := range listsUpTo(4, numbers...) {
				none += checkFlips(t, words, symbols)
			}
		}
	}
	if none < 1000 {
		t.Errorf("only %d changed bits have words that do not end together again", none)
	}
}

func TestPromise6FlipsOfLongBits(t *testing.T) {
	source := rand.New(rand.NewSource(76))
	for _, words := range sampleComplete(source, 3) {
		for _, most := range []int{20, 100, 400} {
			checkFlips(t, words, drawnSymbols(source, words, most))
		}
	}
}

// The words 11 behind a changed bit are read from their middle on, until a word 0 comes.
func TestPromise6FlipsThatEndLate(t *testing.T) {
	words := []string{"0", "10", "11"}
	for count := range 199 {
		symbols := append([]int64{0}, repeated[int64](2, count)...)
		expect(t, []row{
			{fmt.Sprint("never together, ", count), show(impl.FlipLoss(words, symbols, 0)), noLoss},
			{fmt.Sprint("together with the last bit, ", count), show(impl.FlipLoss(words, append(symbols, 0), 0)), show(count+2, 2*count+2, true)},
			{fmt.Sprint("together before the last bits, ", count), show(impl.FlipLoss(words, append(symbols, 0, 0), 0)), show(count+2, 2*count+2, true)},
			{fmt.Sprint("behind other symbols, ", count), show(impl.FlipLoss(words, append([]int64{1}, symbols[:count+1]...), 2)), noLoss},
		})
	}
}

func TestPromise6FlipsOfExamples(t *testing.T) {
	words := []string{"0", "10", "11"}
	four := textsUpTo(4)[15:]
	deep := append(onesThenZero(12), strings.Repeat("1", 12))
	expect(t, []row{
		{"the first bit", show(impl.FlipLoss(words, []int64{1, 0, 2}, 0)), "1 2 true"},
		{"the second bit", show(impl.FlipLoss(words, []int64{1, 0, 2}, 1)), "1 2 true"},
		{"a word that becomes a part of one", show(impl.FlipLoss(words, []int64{1, 0, 2}, 2)), noLoss},
		{"a word that becomes one and a part of one", show(impl.FlipLoss(words, []int64{1, 0, 2}, 3)), noLoss},
		{"the last bit", show(impl.FlipLoss(words, []int64{1, 0, 2}, 4)), "1 5 true"},
		{"a last bit that ends no word", show(impl.FlipLoss(words, []int64{2, 0}, 2)), noLoss},
		{"words of equal lengths", show(impl.FlipLoss(four, []int64{3, 15, 0}, 5)), "1 8 true"},
		{"words of one bit", show(impl.FlipLoss([]string{"1", "0"}, []int64{0, 0, 1}, 1)), "1 2 true"},
		{"a long word that is read with the next one", show(impl.FlipLoss(deep, []int64{0, 0, 12, 0, 0}, 2)), "2 15 true"},
		{"a long word that goes on", show(impl.FlipLoss(deep, []int64{11, 0, 0}, 11)), "1 12 true"},
		{"short words become a long one", show(impl.FlipLoss(deep, []int64{0, 1, 0}, 0)), "2 3 true"},
		{"together with the last one of 400 bits", show(impl.FlipLoss(words, append(append([]int64{0}, repeated[int64](2, 199)...), 0), 0)), "201 400 true"},
		{"never together in 400 bits", show(impl.FlipLoss(words, append([]int64{0, 0}, repeated[int64](2, 199)...), 1)), noLoss},
		{"400 bits", show(impl.FlipLoss(four, repeated[int64](7, 100), 399)), "1 400 true"},
		{"400 bits of words of one bit", show(impl.FlipLoss([]string{"1", "0"}, repeated[int64](1, 400), 399)), "1 400 true"},
	})
}

func TestPromise6FlipsThatFail(t *testing.T) {
	words := []string{"0", "10", "11"}
	four := textsUpTo(4)[15:]
	rows := []row{
		{"no symbols", show(impl.FlipLoss(words, nil, 0)), noLoss},
		{"404 bits", show(impl.FlipLoss(four, repeated[int64](7, 101), 0)), noLoss},
		{"401 bits", show(impl.FlipLoss(words, append(repeated[int64](1, 200), 0), 0)), noLoss},
		{"many symbols", show(impl.FlipLoss(words, make([]int64, 100000), 0)), noLoss},
		{"a code of one word", show(impl.FlipLoss([]string{"0"}, []int64{0, 0}, 0)), noLoss},
		{"a prefix code that is not complete", show(impl.FlipLoss([]string{"0", "10"}, []int64{0, 1, 0}, 1)), noLoss},
		{"no prefix code", show(impl.FlipLoss([]string{"0", "01", "10"}, []int64{0, 1, 0}, 0)), noLoss},
		{"a suffix code with the sum 1", show(impl.FlipLoss([]string{"0", "01", "11"}, []int64{0, 1, 0}, 0)), noLoss},
	}
	for _, n := range []int64{3, 4, 16, -1, -2, math.MinInt64, math.MaxInt64} {
		for at := range 4 {
			symbols := slices.Insert([]int64{1, 0, 2}, at, n)
			rows = append(rows, row{fmt.Sprint("the symbols ", symbols), show(impl.FlipLoss(words, symbols, 0)), noLoss})
		}
	}
	for _, at := range outside(4) {
		rows = append(rows, row{fmt.Sprint("the bit ", at), show(impl.FlipLoss(words, []int64{1, 0, 2}, at)), noLoss})
	}
	for _, at := range outside(399) {
		rows = append(rows, row{fmt.Sprint("the bit ", at, " of 400"), show(impl.FlipLoss(four, repeated[int64](7, 100), at)), noLoss})
	}
	expect(t, rows)
}

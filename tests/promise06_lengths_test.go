package tests

import (
	"fmt"
	"math"
	"math/big"
	"math/rand"
	"slices"
	"strings"
	"testing"

	"loop.example/g01142/impl"
)

// mostWeight is MaxValue divided by 16.
const mostWeight = 62500000000000

// lengthsReference joins weights as the document tells, with lists that are searched from the beginning.
func lengthsReference(weights []int64) []int64 {
	type tree struct {
		weight  int64
		symbols []int
	}
	// The index in this list is the number; a tree that has been joined has no symbols.
	trees := []tree{}
	for n, weight := range weights {
		trees = append(trees, tree{weight, []int{n}})
	}
	lengths := make([]int64, len(weights))
	for range len(weights) - 1 {
		joined := tree{}
		for range 2 {
			least := -1
			for n, other := range trees {
				if other.symbols != nil && (least < 0 || other.weight < trees[least].weight) {
					least = n
				}
			}
			joined.weight += trees[least].weight
			joined.symbols = append(joined.symbols, trees[least].symbols...)
			trees[least].symbols = nil
		}
		trees = append(trees, joined)
		for _, n := range joined.symbols {
			lengths[n]++
		}
	}
	return lengths
}

// costOf returns the sum of the weights times the lengths.
func costOf(weights, lengths []int64) int64 {
	var cost int64
	for i, weight := range weights {
		cost += weight * lengths[i]
	}
	return cost
}

// sumOfShares returns the sum of 1 / 2 to the power of each length, in parts of 4096.
func sumOfShares(lengths []int64) int64 {
	var sum int64
	for _, length := range lengths {
		sum += 4096 >> length
	}
	return sum
}

func checkLengths(t *testing.T, weights []int64) {
	t.Helper()
	name := fmt.Sprint("BestLengths ", weights)
	want := lengthsReference(weights)
	if slices.Max(want) > 12 {
		expect(t, []row{{name, show(impl.BestLengths(weights)), noList}})
		return
	}
	expect(t, []row{{name, show(impl.BestLengths(weights)), show(want, true)}})
	words, ok := impl.CanonicalWords(want)
	if !ok || !impl.IsCompleteCode(words) {
		t.Errorf("%v: the lengths %v have the words %v, which are no complete code", weights, want, words)
	}
	var all int64
	for _, weight := range weights {
		all += weight
	}
	expect(t, []row{{fmt.Sprint("MeanLength ", words, weights), show(impl.MeanLength(words, weights)), showRat(big.NewRat(costOf(weights, want), all))}})
}

// fibonacci returns weights of which each one is joined with all those before it.
func fibonacci(count int) []int64 {
	weights := []int64{1, 1}
	for len(weights) < count {
		weights = append(weights, weights[len(weights)-1]+weights[len(weights)-2])
	}
	return weights[:count]
}

// drawnNumbers returns so many numbers from 1 to most.
func drawnNumbers(source *rand.Rand, count int, most int64) []int64 {
	list := make([]int64, count)
	for i := range list {
		list[i] = 1 + source.Int63n(most)
	}
	return list
}

func TestPromise6BestLengths(t *testing.T) {
	source := rand.New(rand.NewSource(77))
	for _, weights := range listsUpTo(5, 1, 2, 3, 4, 5)[6:] {
		checkLengths(t, weights)
	}
	for count := 2; count <= 16; count++ {
		checkLengths(t, repeated[int64](1, count))
		checkLengths(t, repeated[int64](mostWeight, count))
		for _, most := range []int64{2, 3, 10, 1000, 1000000007, mostWeight} {
			for range 40 {
				checkLengths(t, drawnNumbers(source, count, most))
			}
		}
		for range 10 {
			weights := fibonacci(count)
			weights[source.Intn(count)] += int64(source.Intn(3))
			source.Shuffle(count, func(i, j int) { weights[i], weights[j] = weights[j], weights[i] })
			checkLengths(t, weights)
		}
	}
}

// No other lengths of a prefix code have a lesser sum.
func TestPromise6NoLengthsAreBetter(t *testing.T) {
	source := rand.New(rand.NewSource(78))
	for count := 2; count <= 5; count++ {
		numbers := []int64{1, 2, 3, 4}
		for range 60 {
			weights := drawnNumbers(source, count, 1+source.Int63n(40))
			lengths, _ := impl.BestLengths(weights)
			least := int64(math.MaxInt64)
			for _, other := range listsUpTo(count, numbers[:max(1, count-1)]...) {
				if len(other) == count && sumOfShares(other) <= 4096 {
					least = min(least, costOf(weights, other))
				}
			}
			if costOf(weights, lengths) != least {
				t.Errorf("%v: the lengths %v have the sum %d, the least one is %d", weights, lengths, costOf(weights, lengths), least)
			}
		}
	}
}

func TestPromise6BestLengthsOfExamples(t *testing.T) {
	powers := func(count int) []int64 {
		weights := make([]int64, count)
		for i := range weights {
			weights[i] = 1 << i
		}
		return weights
	}
	expect(t, []row{
		{"the document's weights", show(impl.BestLengths([]int64{1, 1, 2})), "[2 2 1] true"},
		{"the same in another order", show(impl.BestLengths([]int64{2, 1, 1})), "[1 2 2] true"},
		{"two weights", show(impl.BestLengths([]int64{mostWeight, 1})), "[1 1] true"},
		{"three equal weights", show(impl.BestLengths([]int64{7, 7, 7})), "[2 2 1] true"},
		{"five equal weights", show(impl.BestLengths(repeated[int64](1, 5))), "[3 3 2 2 2] true"},
		{"a joined weight comes behind equal ones", show(impl.BestLengths([]int64{1, 1, 2, 2})), "[2 2 2 2] true"},
		{"a joined weight comes behind one of a greater index", show(impl.BestLengths([]int64{2, 1, 1, 2})), "[2 2 2 2] true"},
		{"of two joined weights, the first one is joined again", show(impl.BestLengths([]int64{1, 1, 1, 1, 3, 3})), "[3 3 3 3 2 2] true"},
		{"16 equal weights", show(impl.BestLengths(repeated[int64](mostWeight, 16))), show(repeated[int64](4, 16), true)},
		{"the length 12", show(impl.BestLengths(powers(13))), "[12 12 11 10 9 8 7 6 5 4 3 2 1] true"},
		{"the length 13", show(impl.BestLengths(powers(14))), noList},
		{"the length 15", show(impl.BestLengths(powers(16))), noList},
		{"the length 12 by sums", show(impl.BestLengths(fibonacci(13))), show(lengthsReference(fibonacci(13)), true)},
		{"the length 13 by sums", show(impl.BestLengths(fibonacci(14))), noList},
	})
}

// canonicalReference gives words one by one, each the first one of its length that no other one begins.
func canonicalReference(lengths []int64) ([]string, bool) {
	words := make([]string, len(lengths))
	var given []string
	for length := 1; length <= 12; length++ {
		for i := range lengths {
			if int(lengths[i]) != length {
				continue
			}
			for n := 0; n < 1<<length && words[i] == ""; n++ {
				word := fmt.Sprintf("%0*b", length, n)
				if !slices.ContainsFunc(given, func(other string) bool { return strings.HasPrefix(word, other) }) {
					words[i] = word
				}
			}
			if words[i] == "" {
				return nil, false
			}
			given = append(given, words[i])
		}
	}
	return words, true
}

func checkCanonical(t *testing.T, lengths []int64) {
	t.Helper()
	want, ok := canonicalReference(lengths)
	expect(t, []row{{fmt.Sprint("CanonicalWords ", lengths), show(impl.CanonicalWords(lengths)), show(want, ok)}})
	sum := sumOfShares(lengths)
	if ok != (sum <= 4096) || impl.IsPrefixCode(want) != ok || impl.IsCompleteCode(want) != (sum == 4096) {
		t.Errorf("%v: the words %v, where shares add up to %d / 4096", lengths, want, sum)
	}
}

func TestPromise6CanonicalWords(t *testing.T) {
	source := rand.New(rand.NewSource(79))
	for _, lengths := range listsUpTo(5, 1, 2, 3, 4) {
		if len(lengths) >= 2 {
			checkCanonical(t, lengths)
		}
	}
	counts := map[bool]int{}
	for range 1500 {
		count := 2 + source.Intn(15)
		lengths := drawnNumbers(source, count, 12)
		if source.Intn(2) == 0 {
			lengths = drawnNumbers(source, count, int64(3+source.Intn(3)))
		}
		checkCanonical(t, lengths)
		counts[sumOfShares(lengths) > 4096]++
	}
	if counts[true] < 200 || counts[false] < 200 {
		t.Errorf("%v", counts)
	}
	// Shares that add up to 1, to a little less, and to a little more.
	for _, words := range sampleComplete(source, 10) {
		lengths := make([]int64, len(words))
		for i, word := range words {
			lengths[i] = int64(len(word))
		}
		checkCanonical(t, lengths)
		for i := range lengths {
			for _, change := range []int64{-1, 1} {
				lengths[i] += change
				if lengths[i] >= 1 && lengths[i] <= 12 {
					checkCanonical(t, lengths)
				}
				lengths[i] -= change
			}
		}
	}
}

func TestPromise6CanonicalWordsOfExamples(t *testing.T) {
	twelve := repeated[int64](12, 16)
	words, _ := canonicalReference(twelve)
	expect(t, []row{
		{"the document's lengths", show(impl.CanonicalWords([]int64{2, 2, 1})), "[10 11 0] true"},
		{"less than 1", show(impl.CanonicalWords([]int64{3, 1, 3})), "[100 0 101] true"},
		{"more than 1", show(impl.CanonicalWords([]int64{1, 1, 1})), noList},
		{"a little more than 1", show(impl.CanonicalWords([]int64{1, 2, 3, 3, 12})), noList},
		{"a long word behind two that use all", show(impl.CanonicalWords([]int64{12, 1, 1})), noList},
		{"two words", show(impl.CanonicalWords([]int64{1, 12})), "[0 100000000000] true"},
		{"16 words of 12 bits", show(impl.CanonicalWords(twelve)), show(words, true)},
		{"16 words that use all", show(impl.CanonicalWords(repeated[int64](4, 16))), show(textsUpTo(4)[15:], true)},
		{"the longest words that use all", show(impl.CanonicalWords([]int64{1, 2, 3, 4, 5, 6, 7, 8, 9, 10, 11, 12, 12})), show(append(onesThenZero(12), strings.Repeat("1", 12)), true)},
	})
}

// Lists that have too few or too many numbers, or numbers out of their range.
func TestPromise6WeightsAndLengthsThatAreNone(t *testing.T) {
	lists := func(most int64) [][]int64 {
		all := [][]int64{nil, {}, {1}, {most}, repeated[int64](1, 17), repeated(most, 17), repeated[int64](12, 17), repeated[int64](12, 100000)}
		for _, n := range []int64{0, -1, math.MinInt64, most + 1, 2 * most, math.MaxInt64} {
			for at := range 3 {
				all = append(all, slices.Insert([]int64{5, 7}, at, n))
			}
			all = append(all, []int64{n, n}, append(repeated[int64](6, 15), n))
		}
		return all
	}
	for _, weights := range lists(mostWeight) {
		name := fmt.Sprint(len(weights), weights[:min(16, len(weights))])
		words := textsUpTo(4)[15:]
		expect(t, []row{
			{"BestLengths " + name, show(impl.BestLengths(weights)), noList},
			{"MeanLength " + name, show(impl.MeanLength(words[:min(16, len(weights))], weights)), noFraction},
		})
	}
	for _, lengths := range lists(12) {
		name := fmt.Sprint(len(lengths), lengths[:min(16, len(lengths))])
		expect(t, []row{{"CanonicalWords " + name, show(impl.CanonicalWords(lengths)), noList}})
	}
}

func TestPromise6MeanLength(t *testing.T) {
	source := rand.New(rand.NewSource(80))
	for _, words := range drawnWordLists(source, 10) {
		if len(words) < 2 {
			continue
		}
		for _, most := range []int64{1, 10, 1000000, mostWeight} {
			weights := drawnNumbers(source, len(words), most)
			var sum, all int64
			for i, word := range words {
				sum += weights[i] * int64(len(word))
				all += weights[i]
			}
			name := fmt.Sprint("MeanLength ", words, weights)
			expect(t, []row{
				{name, show(impl.MeanLength(words, weights)), showRat(big.NewRat(sum, all))},
				{name + " without the last weight", show(impl.MeanLength(words, weights[1:])), noFraction},
				{name + " without the last word", show(impl.MeanLength(words[1:], weights)), noFraction},
			})
		}
	}
	expect(t, []row{
		{"the document's weights", show(impl.MeanLength([]string{"10", "11", "0"}, []int64{1, 1, 2})), "{3 2} true"},
		{"words with a clash", show(impl.MeanLength([]string{"0", "01", "10"}, []int64{1, 1, 1})), "{5 3} true"},
		{"the greatest weights", show(impl.MeanLength(withBit("00000000", textsUpTo(4)[15:]), repeated[int64](mostWeight, 16))), "{12 1} true"},
		{"one word", show(impl.MeanLength([]string{"0"}, []int64{1})), noFraction},
	})
}

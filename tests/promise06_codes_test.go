package tests

import (
	"fmt"
	"math/big"
	"math/rand"
	"slices"
	"strings"
	"testing"

	"loop.example/g01142/impl"
)

const (
	noClash = `"" [] [] false`
	noLoss  = `0 0 false`
)

// smallCodes returns all codes of at most so many words of at most so many bits, each one in one order of its words.
func smallCodes(source *rand.Rand, mostWords, mostBits int) [][]string {
	var codes [][]string
	words := textsUpTo(mostBits)[1:]
	lists := [][]string{{}}
	for _, word := range words {
		for _, list := range slices.Clone(lists) {
			if len(list) < mostWords {
				lists = append(lists, append(slices.Clone(list), word))
			}
		}
	}
	for _, list := range lists[1:] {
		codes = append(codes, shuffled(source, list))
	}
	return codes
}

func shuffled(source *rand.Rand, words []string) []string {
	list := slices.Clone(words)
	source.Shuffle(len(list), func(i, j int) { list[i], list[j] = list[j], list[i] })
	return list
}

// drawnWords returns a code with so many words, each of a number of bits from least to most.
func drawnWords(source *rand.Rand, count, least, most int) []string {
	var words []string
	for len(words) < count {
		word := drawnBits(source, int64(least+source.Intn(most-least+1)))
		if !slices.Contains(words, word) {
			words = append(words, word)
		}
	}
	return words
}

// drawnWordLists returns codes of many sizes.
func drawnWordLists(source *rand.Rand, rounds int) [][]string {
	var codes [][]string
	for range rounds {
		for _, count := range []int{1, 2, 3, 4, 6, 10, 16} {
			for _, most := range []int{5, 8, 12} {
				codes = append(codes, drawnWords(source, count, 1, most), drawnWords(source, count, 5, most))
			}
		}
	}
	return codes
}

// completeCodes returns all complete codes with so many words.
func completeCodes(count int) [][]string {
	if count == 1 {
		return [][]string{{""}}
	}
	var codes [][]string
	for left := 1; left < count; left++ {
		for _, zeros := range completeCodes(left) {
			for _, ones := range completeCodes(count - left) {
				codes = append(codes, append(withBit("0", zeros), withBit("1", ones)...))
			}
		}
	}
	return codes
}

func withBit(bit string, words []string) []string {
	list := make([]string, len(words))
	for i, word := range words {
		list[i] = bit + word
	}
	return list
}

// drawnComplete returns a complete code with so many words; deep ones have long words more often.
func drawnComplete(source *rand.Rand, count int, isDeep bool) []string {
	words := []string{""}
	for len(words) < count {
		at := source.Intn(len(words))
		if isDeep && source.Intn(4) > 0 {
			at = len(words) - 1
		}
		if word := words[at]; len(word) < 12 {
			words = append(slices.Delete(words, at, at+1), word+"0", word+"1")
			if source.Intn(2) == 0 {
				last := len(words) - 1
				words[last], words[last-1] = words[last-1], words[last]
			}
		}
	}
	return shuffled(source, words)
}

// sampleComplete returns complete codes of all sizes, of equal and of different lengths.
func sampleComplete(source *rand.Rand, rounds int) [][]string {
	codes := [][]string{textsUpTo(1)[1:], textsUpTo(2)[3:], textsUpTo(3)[7:], textsUpTo(4)[15:]}
	for range rounds {
		for count := 2; count <= 16; count++ {
			codes = append(codes, drawnComplete(source, count, false), drawnComplete(source, count, true))
		}
	}
	return codes
}

// invalidWords are lists of words that are no codes.
func invalidWords() [][]string {
	long := strings.Repeat("01", 6)
	seventeen := textsUpTo(4)[13:30]
	return [][]string{
		nil, {}, {""}, {"0", ""}, {"", "1"}, {"0", "0"}, {"0", "1", "0"}, {"01", "1", "01"}, {long, "1", long},
		{"2"}, {"0", "1x"}, {"0", " 1"}, {"0", "1\n"}, {"\x00", "\x01"}, {"0", "\xff"}, {"0", "\u0661"}, {"/", ":"}, {"0", "-1"},
		{long + "0"}, {"0", long + "1"}, {"1", strings.Repeat("0", 13)}, {"1", strings.Repeat("0", 400)}, {"1", strings.Repeat("0", 100000)},
		seventeen, append(slices.Clone(seventeen), seventeen...), repeated("0", 2), repeated("0", 16), repeated("0", 17), repeated("01", 100000),
	}
}

func isPrefixReference(words []string) bool {
	for i, word := range words {
		for j, other := range words {
			if i != j && strings.HasPrefix(other, word) {
				return false
			}
		}
	}
	return true
}

func kraftReference(words []string) *big.Rat {
	sum := new(big.Rat)
	for _, word := range words {
		sum.Add(sum, big.NewRat(1, 1<<len(word)))
	}
	return sum
}

func checkKinds(t *testing.T, words []string) {
	t.Helper()
	name := fmt.Sprint(len(words), words)
	sum := kraftReference(words)
	isPrefix := isPrefixReference(words)
	isComplete := isPrefix && sum.Cmp(big.NewRat(1, 1)) == 0
	expect(t, []row{
		{"IsCode " + name, show(impl.IsCode(words)), "true"},
		{"IsPrefixCode " + name, show(impl.IsPrefixCode(words)), show(isPrefix)},
		{"KraftSum " + name, show(impl.KraftSum(words)), showRat(sum)},
		{"IsCompleteCode " + name, show(impl.IsCompleteCode(words)), show(isComplete)},
	})
}

func TestPromise6KindsOfCodes(t *testing.T) {
	source := rand.New(rand.NewSource(61))
	for _, words := range smallCodes(source, 4, 3) {
		checkKinds(t, words)
	}
	for _, words := range drawnWordLists(source, 10) {
		checkKinds(t, words)
	}
	for _, words := range sampleComplete(source, 10) {
		checkKinds(t, words)
		checkKinds(t, words[1:])
		// With a word that is too much, the sum can still be 1, less or more.
		for _, more := range []string{words[0] + "0", "0", "11"} {
			if len(words) < 16 && len(more) <= 12 && !slices.Contains(words, more) {
				checkKinds(t, append(slices.Clone(words), more))
				checkKinds(t, append(slices.Clone(words[1:]), more))
			}
		}
	}
}

// A code whose sum is 1 need not be a prefix code.
func TestPromise6CodesOfExamples(t *testing.T) {
	twelve := strings.Repeat("1", 12)
	expect(t, []row{
		{"one word of 1 bit", show(impl.IsCode([]string{"0"})), "true"},
		{"one word of 12 bits", show(impl.IsCode([]string{twelve})), "true"},
		{"one word of 13 bits", show(impl.IsCode([]string{twelve + "1"})), "false"},
		{"16 words", show(impl.IsCode(textsUpTo(4)[15:])), "true"},
		{"17 words", show(impl.IsCode(textsUpTo(4)[14:])), "false"},
		{"16 words of 1 to 4 bits", show(impl.IsCode(textsUpTo(4)[1:17])), "true"},
		{"17 words of 1 to 4 bits", show(impl.IsCode(textsUpTo(4)[1:18])), "false"},
		{"the sum of one word", show(impl.KraftSum([]string{"0"})), "{1 2} true"},
		{"the least sum", show(impl.KraftSum([]string{twelve})), "{1 4096} true"},
		{"a sum above 1", show(impl.KraftSum(textsUpTo(3)[1:])), "{3 1} true"},
		{"the document's words", show(impl.KraftSum([]string{"0", "01", "10"})), "{1 1} true"},
		{"the sum is 1, but 0 begins 01", show(impl.IsCompleteCode([]string{"0", "01", "10"})), "false"},
		{"a suffix code with the sum 1", show(impl.IsCompleteCode([]string{"0", "01", "11"})), "false"},
		{"a complete code", show(impl.IsCompleteCode([]string{"0", "10", "11"})), "true"},
		{"a prefix code that is not complete", show(impl.IsCompleteCode([]string{"0", "10"})), "false"},
		{"one word is not complete", show(impl.IsCompleteCode([]string{"0"})), "false"},
		{"one word is a prefix code", show(impl.IsPrefixCode([]string{"0"})), "true"},
		{"a word at the beginning of one before it", show(impl.IsPrefixCode([]string{"011", "1", "01"})), "false"},
		{"a word at the end of another one", show(impl.IsPrefixCode([]string{"011", "1", "00"})), "true"},
	})
}

func TestPromise6WordsThatAreNoCode(t *testing.T) {
	for i, words := range invalidWords() {
		name := fmt.Sprint("invalid words ", i, " ")
		expect(t, []row{
			{name + "IsCode", show(impl.IsCode(words)), "false"},
			{name + "IsPrefixCode", show(impl.IsPrefixCode(words)), "false"},
			{name + "KraftSum", show(impl.KraftSum(words)), noFraction},
			{name + "ParsesOf", show(impl.ParsesOf(words, "")), noNumber},
			{name + "ParsesOf", show(impl.ParsesOf(words, "01")), noNumber},
			{name + "IsDecodable", show(impl.IsDecodable(words)), "false"},
			{name + "ShortestClash", show(impl.ShortestClash(words)), noClash},
			{name + "DecodeWords", show(impl.DecodeWords(words, "")), noList},
			{name + "DecodeWords", show(impl.DecodeWords(words, "01")), noList},
			{name + "IsCompleteCode", show(impl.IsCompleteCode(words)), "false"},
			{name + "SyncWord", show(impl.SyncWord(words)), noText},
			{name + "FlipLoss", show(impl.FlipLoss(words, []int64{0, 0}, 0)), noLoss},
			{name + "MeanLength", show(impl.MeanLength(words, repeated[int64](1, len(words)))), noFraction},
			{name + "MeanLength", show(impl.MeanLength(words, []int64{1, 1})), noFraction},
		})
	}
}

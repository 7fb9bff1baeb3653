package tests

import (
	"fmt"
	"math/big"
	"math/rand"
	"slices"
	"strings"
	"testing"

	"loop.example/g01142/impl"
)

var mostParses = big.NewInt(impl.MaxParses)

// allParses returns all parses of bits in lexicographic order.
func allParses(words []string, s string) [][]int64 {
	if s == "" {
		return [][]int64{{}}
	}
	var parses [][]int64
	for n, word := range words {
		if rest, ok := strings.CutPrefix(s, word); ok {
			for _, parse := range allParses(words, rest) {
				parses = append(parses, append([]int64{int64(n)}, parse...))
			}
		}
	}
	return parses
}

// parsesReference returns how many parses the beginnings of bits have.
func parsesReference(words []string, s string) []*big.Int {
	counts := []*big.Int{big.NewInt(1)}
	for end := 1; end <= len(s); end++ {
		count := new(big.Int)
		for _, word := range words {
			if strings.HasSuffix(s[:end], word) {
				count.Add(count, counts[end-len(word)])
			}
		}
		counts = append(counts, count)
	}
	return counts
}

func showParses(count *big.Int) string {
	if count.Cmp(mostParses) > 0 {
		count = mostParses
	}
	return show(count.Int64(), true)
}

// wordsOf returns the words of symbols one behind the other.
func wordsOf(words []string, symbols []int64) string {
	var sent strings.Builder
	for _, n := range symbols {
		sent.WriteString(words[n])
	}
	return sent.String()
}

// drawnSymbols returns symbols whose words are so many bits, or a few less.
func drawnSymbols(source *rand.Rand, words []string, most int) []int64 {
	var symbols []int64
	for length := 0; ; {
		n := source.Intn(len(words))
		if length += len(words[n]); length > most {
			return symbols
		}
		symbols = append(symbols, int64(n))
	}
}

func checkParses(t *testing.T, words []string, s string) *big.Int {
	t.Helper()
	count := parsesReference(words, s)[len(s)]
	expect(t, []row{{fmt.Sprint("ParsesOf ", words, s), show(impl.ParsesOf(words, s)), showParses(count)}})
	return count
}

func TestPromise6ParsesByTrying(t *testing.T) {
	source := rand.New(rand.NewSource(62))
	texts := textsUpTo(6)
	for _, words := range smallCodes(source, 3, 3) {
		isDecodable := impl.IsDecodable(words)
		for _, s := range texts {
			parses := allParses(words, s)
			expect(t, []row{{fmt.Sprint("ParsesOf ", words, s), show(impl.ParsesOf(words, s)), show(len(parses), true)}})
			want := noList
			if isDecodable && len(parses) == 1 {
				want = show(parses[0], true)
			}
			if isDecodable && len(parses) > 1 {
				t.Errorf("IsDecodable %v: %s has the parses %v", words, s, parses)
			}
			expect(t, []row{{fmt.Sprint("DecodeWords ", words, s), show(impl.DecodeWords(words, s)), want}})
		}
	}
}

func TestPromise6ParsesOfLongBits(t *testing.T) {
	source := rand.New(rand.NewSource(63))
	above := 0
	for _, words := range drawnWordLists(source, 6) {
		for _, most := range []int{40, 120, 400} {
			s := wordsOf(words, drawnSymbols(source, words, most))
			if checkParses(t, words, s).Cmp(mostParses) > 0 {
				above++
			}
			checkParses(t, words, drawnBits(source, int64(most)))
			if s != "" {
				checkParses(t, words, s[1:])
				checkParses(t, words, s[:len(s)-1])
			}
		}
	}
	if above < 10 {
		t.Errorf("only %d bits have more than MaxParses parses", above)
	}
}

// A part of 0 bits has 2 parses, or 5, by the words 0 and 00; a bit 1 ends it.
func TestPromise6NumbersOfParsesAtTheLimit(t *testing.T) {
	words := []string{"0", "1", "00"}
	twos, fives := strings.Repeat("001", 15), strings.Repeat("00001", 15)
	all := "1000000000000000 true"
	expect(t, []row{
		{"at MaxParses", show(impl.ParsesOf(words, twos+fives)), all},
		{"at MaxParses, and then a word", show(impl.ParsesOf(words, fives+twos+"11")), all},
		{"half of MaxParses", show(impl.ParsesOf(words, twos[3:]+fives)), "500000000000000 true"},
		{"just below MaxParses", show(impl.ParsesOf(words, strings.Repeat("001", 49))), "562949953421312 true"},
		{"just above MaxParses", show(impl.ParsesOf(words, strings.Repeat("001", 50))), all},
		{"twice MaxParses", show(impl.ParsesOf(words, twos+fives+"00")), all},
		{"thrice MaxParses", show(impl.ParsesOf(words, "000"+"1"+twos+fives)), all},
		{"400 bits", show(impl.ParsesOf(words, strings.Repeat("0", 400))), all},
		{"no parse behind more than MaxParses", show(impl.ParsesOf([]string{"0", "00", "11"}, strings.Repeat("0", 399)+"1")), "0 true"},
		{"no parse before more than MaxParses", show(impl.ParsesOf([]string{"0", "00", "11"}, "1"+strings.Repeat("0", 399))), "0 true"},
		{"one parse behind no parses", show(impl.ParsesOf([]string{"00", "000"}, "0")), "0 true"},
		{"16 words of the same bits", show(impl.ParsesOf(sameBits(12), strings.Repeat("1", 400))), all},
	})
	// The greatest numbers that are not above the limit, and the least ones that are.
	for length := 1; length < 120; length++ {
		checkParses(t, words, strings.Repeat("0", length))
		checkParses(t, []string{"1", "11", "111"}, strings.Repeat("1", length))
		checkParses(t, sameBits(12), strings.Repeat("1", length))
	}
}

// sameBits returns the words of 1 to most bits 1.
func sameBits(most int) []string {
	words := make([]string, most)
	for i := range words {
		words[i] = strings.Repeat("1", i+1)
	}
	return words
}

func TestPromise6WordsComeBack(t *testing.T) {
	source := rand.New(rand.NewSource(64))
	codes := sampleComplete(source, 4)
	for _, words := range codes {
		turned := make([]string, len(words))
		for i, word := range words {
			digits := []byte(word)
			slices.Reverse(digits)
			turned[i] = string(digits)
		}
		codes = append(codes, turned, words[1:])
	}
	for _, words := range codes {
		for _, most := range []int{12, 100, 400} {
			symbols := drawnSymbols(source, words, most)
			s := wordsOf(words, symbols)
			expect(t, []row{
				{fmt.Sprint("IsDecodable ", words), show(impl.IsDecodable(words)), "true"},
				{fmt.Sprint("DecodeWords ", words, s), show(impl.DecodeWords(words, s)), show(symbols, true)},
				{fmt.Sprint("ParsesOf ", words, s), show(impl.ParsesOf(words, s)), "1 true"},
			})
		}
	}
}

func TestPromise6ParsesOfExamples(t *testing.T) {
	clashing, suffix := []string{"0", "01", "10"}, []string{"0", "01", "11"}
	long := strings.Repeat("1", 400)
	expect(t, []row{
		{"the document's bits", show(impl.ParsesOf(clashing, "010")), "2 true"},
		{"no bits", show(impl.ParsesOf(clashing, "")), "1 true"},
		{"no bits of one word", show(impl.ParsesOf([]string{"0"}, "")), "1 true"},
		{"no parse", show(impl.ParsesOf(clashing, "11")), "0 true"},
		{"a part of a word", show(impl.ParsesOf([]string{"01"}, "0")), "0 true"},
		{"bits that are none", show(impl.ParsesOf(clashing, "012")), noNumber},
		{"401 bits", show(impl.ParsesOf(clashing, long+"0")), noNumber},
		{"many bits", show(impl.ParsesOf(clashing, strings.Repeat("0", 100000))), noNumber},
		{"decoding with a clash", show(impl.DecodeWords(clashing, "010")), noList},
		{"decoding with a clash elsewhere", show(impl.DecodeWords(clashing, "0")), noList},
		{"decoding no bits with a clash", show(impl.DecodeWords(clashing, "")), noList},
		{"decoding from behind", show(impl.DecodeWords(suffix, "0"+long[:398])), show(append([]int64{0}, repeated[int64](2, 199)...), true)},
		{"decoding from behind with one more bit", show(impl.DecodeWords(suffix, "0"+long[:399])), show(append([]int64{1}, repeated[int64](2, 199)...), true)},
		{"decoding no bits", show(impl.DecodeWords(suffix, "")), "[] true"},
		{"decoding bits without a parse", show(impl.DecodeWords(suffix, "1")), noList},
		{"decoding a part of a word", show(impl.DecodeWords([]string{"0", "10"}, "0101")), noList},
		{"decoding bits that are none", show(impl.DecodeWords(suffix, "01x")), noList},
		{"decoding 400 bits", show(impl.DecodeWords([]string{"1"}, long)), show(make([]int64, 400), true)},
		{"decoding 401 bits", show(impl.DecodeWords([]string{"1"}, long+"1")), noList},
		{"decoding many bits", show(impl.DecodeWords([]string{"1"}, strings.Repeat("1", 100000))), noList},
	})
}

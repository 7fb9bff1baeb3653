package tests

import (
	"fmt"
	"math/rand"
	"slices"
	"strings"
	"testing"

	"loop.example/g01142/impl"
)

// longClashes are codes with a long shortest clash, and its length.
var longClashes = []struct {
	words  []string
	length int
}{
	{[]string{"000000000000", "00000000000"}, 23},
	{[]string{"010101010101", "0101010101"}, 22},
	{strings.Fields("01110011 101000100010 0010010101 001000101110 01010001000 0100010100 010100010001 10011001 001010001001 1111111010 11101000100 000111010001 10101000 010001001111 100010001010 0001"), 230},
	{strings.Fields("0111011001 1111 00110011 1001001001 1111010110 0100001 11011111101 101101101111 100111001110 0111111110 010001100010 101000110001 0111 1011111100 110011111011 111011111111"), 192},
}

// isBeforeText reports whether a text is shorter than another one, or as long and lexicographically less.
func isBeforeText(a, b string) bool {
	return len(a) < len(b) || len(a) == len(b) && a < b
}

// danglingClash returns the shortest clash, if there is one. It goes from one
// rest of a word, by which one parse is ahead of another one, to the next, and
// takes the one first whose bits come first.
func danglingClash(words []string) (string, bool) {
	first := map[string]string{}
	done := map[string]bool{}
	reach := func(rest, s string) {
		if known, ok := first[rest]; !ok || isBeforeText(s, known) {
			first[rest] = s
		}
	}
	for i, word := range words {
		for j, other := range words {
			if rest, ok := strings.CutPrefix(other, word); ok && i != j {
				reach(rest, other)
			}
		}
	}
	for len(done) < len(first) {
		rest, found := "", false
		for other := range first {
			if !done[other] && (!found || isBeforeText(first[other], first[rest])) {
				rest, found = other, true
			}
		}
		if rest == "" {
			return first[rest], true
		}
		done[rest] = true
		for _, word := range words {
			if ahead, ok := strings.CutPrefix(word, rest); ok {
				reach(ahead, first[rest]+ahead)
			}
			if left, ok := strings.CutPrefix(rest, word); ok {
				reach(left, first[rest])
			}
		}
	}
	return "", false
}

// endParses returns the lexicographically least and greatest parses of bits, which have some.
func endParses(words []string, s string) ([]int64, []int64) {
	least, greatest := make([][]int64, len(s)+1), make([][]int64, len(s)+1)
	least[len(s)], greatest[len(s)] = []int64{}, []int64{}
	for at := len(s) - 1; at >= 0; at-- {
		for n, word := range words {
			if !strings.HasPrefix(s[at:], word) || least[at+len(word)] == nil {
				continue
			}
			low := append([]int64{int64(n)}, least[at+len(word)]...)
			high := append([]int64{int64(n)}, greatest[at+len(word)]...)
			if least[at] == nil || slices.Compare(low, least[at]) < 0 {
				least[at] = low
			}
			if greatest[at] == nil || slices.Compare(high, greatest[at]) > 0 {
				greatest[at] = high
			}
		}
	}
	return least[0], greatest[0]
}

// checkClash compares the clash of a code with that of danglingClash, and returns its length.
func checkClash(t *testing.T, words []string) int {
	t.Helper()
	name := fmt.Sprint(len(words), words)
	clash, hasClash := danglingClash(words)
	if !hasClash {
		expect(t, []row{
			{"IsDecodable " + name, show(impl.IsDecodable(words)), "true"},
			{"ShortestClash " + name, show(impl.ShortestClash(words)), noClash},
		})
		return 0
	}
	least, greatest := endParses(words, clash)
	if wordsOf(words, least) != clash || wordsOf(words, greatest) != clash || slices.Equal(least, greatest) {
		t.Fatalf("%s: %v and %v are no two parses of %s", name, least, greatest, clash)
	}
	expect(t, []row{
		{"IsDecodable " + name, show(impl.IsDecodable(words)), "false"},
		{"ShortestClash " + name, show(impl.ShortestClash(words)), show(clash, least, greatest, true)},
		{"DecodeWords " + name, show(impl.DecodeWords(words, words[0])), noList},
	})
	return len(clash)
}

// The first of all short bits that have several parses are the shortest clash.
func TestPromise6ClashesByTrying(t *testing.T) {
	source := rand.New(rand.NewSource(65))
	texts := textsUpTo(9)
	clashes, codes := 0, smallCodes(source, 3, 3)
	for range 300 {
		codes = append(codes, drawnWords(source, 2+source.Intn(4), 2, 5))
	}
	for _, words := range codes {
		want := noClash
		for _, s := range texts {
			if parses := allParses(words, s); len(parses) > 1 {
				want = show(s, parses[0], parses[len(parses)-1], true)
				clashes++
				break
			}
		}
		clash, _, _, ok := impl.ShortestClash(words)
		// A clash that is longer than all that have been tried is found by other tests.
		if got := show(impl.ShortestClash(words)); got != want && !(ok && want == noClash && len(clash) > 9) {
			t.Errorf("ShortestClash %v: got %s, want %s", words, got, want)
		}
	}
	if clashes < 150 {
		t.Errorf("only %d codes have a clash", clashes)
	}
}

func TestPromise6ClashesOfSmallCodes(t *testing.T) {
	source := rand.New(rand.NewSource(66))
	for _, words := range smallCodes(source, 4, 3) {
		checkClash(t, words)
	}
}

func TestPromise6ClashesOfDrawnCodes(t *testing.T) {
	source := rand.New(rand.NewSource(67))
	codes := drawnWordLists(source, 60)
	for range 1500 {
		codes = append(codes, drawnWords(source, 3+source.Intn(6), 1+source.Intn(3), 4+source.Intn(4)))
	}
	clashes := 0
	for _, words := range codes {
		if checkClash(t, words) > 0 {
			clashes++
		}
	}
	if clashes < 500 || len(codes)-clashes < 500 {
		t.Errorf("%d of %d codes have a clash", clashes, len(codes))
	}
}

// Codes that are nearly those with a long clash have long ones, too, or none.
func TestPromise6ClashesBesideLongOnes(t *testing.T) {
	source := rand.New(rand.NewSource(71))
	long, none := 0, 0
	for _, code := range longClashes[2:] {
		for range 150 {
			words := shuffled(source, code.words)
			if word := drawnBits(source, int64(1+source.Intn(12))); !slices.Contains(words, word) {
				words[0] = word
			}
			switch length := checkClash(t, words[source.Intn(2):]); {
			case length > 100:
				long++
			case length == 0:
				none++
			}
		}
	}
	if long < 20 || none < 20 {
		t.Errorf("%d codes have a long clash, and %d none", long, none)
	}
}

func TestPromise6LongClashes(t *testing.T) {
	source := rand.New(rand.NewSource(68))
	for _, code := range longClashes {
		for range 5 {
			if length := checkClash(t, shuffled(source, code.words)); length != code.length {
				t.Errorf("%v: the reference has a clash of %d bits", code.words, length)
			}
		}
	}
	for a := 1; a <= 12; a++ {
		for b := 1; b < a; b++ {
			checkClash(t, []string{strings.Repeat("0", a), strings.Repeat("0", b)})
			checkClash(t, []string{strings.Repeat("1", a), "0", strings.Repeat("1", b) + "0", "01"})
		}
	}
}

// Words read from behind are decodable as those read from the front.
func TestPromise6TurnedCodesAreDecodableAsWell(t *testing.T) {
	source := rand.New(rand.NewSource(69))
	counts := map[bool]int{}
	for range 2000 {
		words := drawnWords(source, 2+source.Intn(5), 1+source.Intn(3), 4+source.Intn(5))
		turned := make([]string, len(words))
		for i, word := range words {
			turned[i], _ = impl.ReverseBits(word)
		}
		isDecodable := impl.IsDecodable(words)
		counts[isDecodable]++
		clash, _, _, _ := impl.ShortestClash(words)
		other, _, _, _ := impl.ShortestClash(turned)
		if impl.IsDecodable(turned) != isDecodable || len(other) != len(clash) {
			t.Errorf("%v: decodable %v, clashes %s and %s", words, isDecodable, clash, other)
		}
		if sum, _ := impl.KraftSum(words); isDecodable && sum.Num > sum.Den {
			t.Errorf("%v is decodable with the sum %v", words, sum)
		}
	}
	if counts[true] < 100 || counts[false] < 100 {
		t.Errorf("%v", counts)
	}
}

func TestPromise6ClashesOfExamples(t *testing.T) {
	expect(t, []row{
		{"the document's words", show(impl.ShortestClash([]string{"0", "01", "10"})), `"010" [0 2] [1 0] true`},
		{"the same words in another order", show(impl.ShortestClash([]string{"10", "01", "0"})), `"010" [1 2] [2 0] true`},
		{"a parse that is shorter", show(impl.ShortestClash([]string{"0", "00"})), `"00" [0 0] [1] true`},
		{"a parse that is shorter comes first", show(impl.ShortestClash([]string{"00", "0"})), `"00" [0] [1 1] true`},
		{"several words that clash", show(impl.ShortestClash([]string{"000", "0", "00", "0001", "0010"})), `"00" [1 1] [2] true`},
		{"four parses", show(impl.ShortestClash([]string{"001", "0111", "00", "10111", "0010111", "0010", "111"})), `"0010111" [0 1] [5 6] true`},
		{"four parses in another order", show(impl.ShortestClash([]string{"0010111", "0111", "0010", "10111", "00", "111", "001"})), `"0010111" [0] [6 1] true`},
		{"the least of two clashes", show(impl.ShortestClash([]string{"1", "0", "11", "00"})), `"00" [1 1] [3] true`},
		{"a parse whose rest goes over several words", show(impl.ShortestClash([]string{"1", "011", "01110", "1110", "10011"})), `"111011" [0 0 0 1] [3 0 0] true`},
		{"bits behind which a reader is at several places", show(impl.ShortestClash([]string{"0", "01", "001", "010"})), `"001" [0 1] [2] true`},
		{"a prefix code", show(impl.ShortestClash([]string{"0", "10", "11"})), noClash},
		{"a suffix code", show(impl.ShortestClash([]string{"0", "01", "11"})), noClash},
		{"neither of both, and decodable", show(impl.ShortestClash([]string{"0", "010", "0111"})), noClash},
		{"one word", show(impl.ShortestClash([]string{"0101"})), noClash},
		{"one word is decodable", show(impl.IsDecodable([]string{"0101"})), "true"},
		{"no prefix code and decodable", show(impl.IsDecodable([]string{"0", "01", "11"})), "true"},
		{"the sum is 1 and it clashes", show(impl.IsDecodable([]string{"0", "01", "10"})), "false"},
	})
}

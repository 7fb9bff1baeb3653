package tests

import (
	"fmt"
	"math"
	"reflect"
	"slices"
	"strings"
	"testing"

	"loop.example/g01142/impl"
)

var chapter5 = map[string]any{
	"IsCode":         impl.IsCode,
	"IsPrefixCode":   impl.IsPrefixCode,
	"KraftSum":       impl.KraftSum,
	"ParsesOf":       impl.ParsesOf,
	"IsDecodable":    impl.IsDecodable,
	"ShortestClash":  impl.ShortestClash,
	"DecodeWords":    impl.DecodeWords,
	"IsCompleteCode": impl.IsCompleteCode,
	"SyncWord":       impl.SyncWord,
	"FlipLoss":       impl.FlipLoss,
	"BestLengths":    impl.BestLengths,
	"CanonicalWords": impl.CanonicalWords,
	"MeanLength":     impl.MeanLength,
}

var chapter5Numbers = []int64{
	math.MinInt64, -1, 0, 1, 2, 5, 62, 63, 398, 399, 400, 401, math.MaxInt64 - 1, math.MaxInt64,
}

var chapter5Texts = []string{
	"", "0", "1", "010", "10011", "0111", "012", "0\xff", strings.Repeat("0", 60), strings.Repeat("1", 400),
	strings.Repeat("01", 200), strings.Repeat("0", 401), strings.Repeat("01", 5000),
}

// wordListPool has codes of all kinds, and lists that are none.
func wordListPool() [][]string {
	lists := [][]string{
		{"0"}, {"111111111111"}, {"0", "1"}, {"0", "10", "11"}, {"0", "10"}, {"0", "01", "10"}, {"0", "01", "11"}, {"0", "00"},
		{"0010111", "0111", "0010", "10111", "00", "111", "001"}, textsUpTo(2)[3:], textsUpTo(4)[15:], textsUpTo(4)[1:17],
		append(onesThenZero(12), strings.Repeat("1", 12)), longClashes[0].words, longClashes[2].words,
	}
	// Very long lists take too long to be compared for each call.
	return append(lists, slices.DeleteFunc(invalidWords(), func(words []string) bool { return len(words) > 100 })...)
}

// numberListPool has symbols, weights and lengths, and lists that are none of these.
func numberListPool() [][]int64 {
	return [][]int64{
		nil, {}, {0}, {1}, {1, 0, 2}, {0, 2, 2, 0}, {1, 1, 2}, {2, 2, 1}, {1, 1, 1}, {1, 12}, {1, 13}, {3, 1}, {0, 1}, {-1, 0}, {16, 17},
		{5, 5, 5, 5, 5}, {1, 2, 3, 4, 5, 6, 7, 8, 9, 10, 11, 12, 12}, {mostWeight, 1}, {mostWeight + 1, 1}, {math.MinInt64, math.MaxInt64},
		fibonacci(13), fibonacci(14), repeated[int64](mostWeight, 16), repeated[int64](4, 16), repeated[int64](12, 17),
		repeated[int64](1, 200), make([]int64, 400), make([]int64, 401), make([]int64, 5000),
	}
}

func TestPromise1Chapter5(t *testing.T) {
	checkChapter(t, chapter5, poolsOf(pooled(chapter5Texts), pooled(chapter5Numbers), pooled(wordListPool()), pooled(numberListPool())))
}

func TestPromise1NilAndEmptyWordsAndSymbolsAreTheSame(t *testing.T) {
	words := []string{"0", "10", "11"}
	expect(t, []row{
		{"IsCode", show(impl.IsCode(nil)), show(impl.IsCode([]string{}))},
		{"KraftSum", show(impl.KraftSum(nil)), show(impl.KraftSum([]string{}))},
		{"ShortestClash", show(impl.ShortestClash(nil)), show(impl.ShortestClash([]string{}))},
		{"FlipLoss", show(impl.FlipLoss(words, nil, 0)), show(impl.FlipLoss(words, []int64{}, 0))},
		{"BestLengths", show(impl.BestLengths(nil)), show(impl.BestLengths([]int64{}))},
		{"CanonicalWords", show(impl.CanonicalWords(nil)), show(impl.CanonicalWords([]int64{}))},
		{"MeanLength", show(impl.MeanLength(nil, nil)), show(impl.MeanLength([]string{}, []int64{}))},
	})
}

// Calls share no memory, neither with one another nor with what they have got.
func TestPromise1WordsAndSymbolsShareNoMemory(t *testing.T) {
	words := []string{"0", "01", "10"}
	weights, lengths := []int64{1, 1, 2}, []int64{2, 2, 1}
	before := fmt.Sprint(words, weights, lengths)
	for name, call := range map[string]func() []any{
		"ShortestClash": func() []any {
			_, least, greatest, _ := impl.ShortestClash(words)
			return []any{least, greatest}
		},
		"DecodeWords": func() []any {
			symbols, _ := impl.DecodeWords([]string{"0", "01", "11"}, "0111")
			return []any{symbols}
		},
		"BestLengths": func() []any {
			best, _ := impl.BestLengths(weights)
			return []any{best}
		},
		"CanonicalWords": func() []any {
			made, _ := impl.CanonicalWords(lengths)
			return []any{made}
		},
	} {
		first, second := call(), call()
		want := fmt.Sprint(second)
		for i, list := range first {
			others := fmt.Sprint(first[i+1:])
			fill(reflect.ValueOf(list), 43)
			if fmt.Sprint(first[i+1:]) != others {
				t.Errorf("%s: two results share memory", name)
			}
		}
		if got := fmt.Sprint(second); got != want || fmt.Sprint(first) == want {
			t.Errorf("%s: a result has become %s instead of %s when another one was overwritten", name, got, want)
		}
	}
	if after := fmt.Sprint(words, weights, lengths); after != before {
		t.Errorf("the arguments %s have become %s", before, after)
	}
}

// Tables and heaps of one call leave nothing to the next one, whatever has been called before it.
func TestPromise1CodesAreNotKept(t *testing.T) {
	calls := func() string {
		return strings.Join([]string{
			show(impl.ShortestClash([]string{"0", "01", "10"})), show(impl.ShortestClash([]string{"0", "01", "11"})),
			show(impl.SyncWord([]string{"0", "10", "11"})), show(impl.SyncWord(textsUpTo(2)[3:])),
			show(impl.FlipLoss([]string{"0", "10", "11"}, []int64{1, 0, 2}, 0)), show(impl.BestLengths([]int64{3, 1, 1, 2})),
			show(impl.CanonicalWords([]int64{3, 1, 3})), show(impl.ParsesOf([]string{"0", "00"}, "0000")),
		}, "; ")
	}
	first := calls()
	for _, words := range wordListPool() {
		impl.ShortestClash(words)
		impl.SyncWord(words)
		if again := calls(); again != first {
			t.Fatalf("behind %d words: got %s, and first %s", len(words), again, first)
		}
	}
}

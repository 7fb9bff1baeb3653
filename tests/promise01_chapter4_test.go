package tests

import (
	"math"
	"reflect"
	"strings"
	"testing"

	"loop.example/g01142/impl"
)

var chapter4 = map[string]any{
	"ValidStuffer":  impl.ValidStuffer,
	"StuffBits":     impl.StuffBits,
	"UnstuffBits":   impl.UnstuffBits,
	"LongestRun":    impl.LongestRun,
	"FlagOf":        impl.FlagOf,
	"FrameBits":     impl.FrameBits,
	"DeframeBits":   impl.DeframeBits,
	"MeanStuffed":   impl.MeanStuffed,
	"MostStuffed":   impl.MostStuffed,
	"CountStuffed":  impl.CountStuffed,
	"EscapeBytes":   impl.EscapeBytes,
	"UnescapeBytes": impl.UnescapeBytes,
	"CobsBytes":     impl.CobsBytes,
	"UncobsBytes":   impl.UncobsBytes,
}

var chapter4Numbers = []int64{
	math.MinInt64, -401, -1, 0, 1, 2, 10, 11, 59, 60, 61, 399, 400, 401, math.MaxInt64 - 1, math.MaxInt64,
}

var chapter4Texts = []string{
	"", "0", "1", "11101", "110101", "01110101110110001110", "0111001110", "011010011011001011", "012", "0\xff",
	strings.Repeat("1", 60), strings.Repeat("0", 200), strings.Repeat("1", 363), strings.Repeat("1", 400), strings.Repeat("0", 400),
	strings.Repeat("01110", 80), strings.Repeat("0", 401), strings.Repeat("01", 5000),
}

var framePool = [][]string{
	nil, {}, {""}, {"1", "110"}, {"0", "", "1"}, {"1", "2"}, {"\xff"}, {strings.Repeat("0", 390)}, {strings.Repeat("1", 401)},
	repeated("", 79), repeated("", 80), repeated("01", 5000),
}

// byteListPool has bytes, special ones, long ones, and lists that are none of these.
func byteListPool() [][]int64 {
	lists := [][]int64{
		nil, {}, {0}, {1}, {2, 1, 2, 2}, {1, 0, 2}, {1, 125, 94, 125, 93}, {1, 126, 125}, {1, 125}, {0, 0, 0}, {256}, {-1}, {3, 1},
		{125}, {125, 126}, {93, 125}, {126, 125}, {math.MinInt64, 125}, {125, math.MaxInt64}, {0, 10, 13, 17, 19, 125, 126, 255},
		repeated[int64](1, 300), repeated[int64](1, 301), repeated[int64](1, 600), repeated[int64](126, 300), repeated[int64](93, 601),
		append([]int64{255}, repeated[int64](7, 254)...), append(repeated[int64](7, 254), 0), append([]int64{255}, repeated[int64](1, 255)...),
	}
	return append(lists, escapeReference([]int64{125, 126}, repeated[int64](126, 300)), make([]int64, 5000))
}

func TestPromise1Chapter4(t *testing.T) {
	checkChapter(t, chapter4, poolsOf(pooled(chapter4Texts), pooled(chapter4Numbers), pooled(framePool), pooled(byteListPool()),
		pooled(append(validStuffers(), invalidStuffers...))))
}

func TestPromise1NilAndEmptyFramesAndBytesAreTheSame(t *testing.T) {
	s := impl.Stuffer{After: 2, Bit: 1}
	special := []int64{125}
	expect(t, []row{
		{"FrameBits", show(impl.FrameBits(s, nil)), show(impl.FrameBits(s, []string{}))},
		{"EscapeBytes", show(impl.EscapeBytes(special, nil)), show(impl.EscapeBytes(special, []int64{}))},
		{"EscapeBytes without special bytes", show(impl.EscapeBytes(nil, special)), show(impl.EscapeBytes([]int64{}, special))},
		{"UnescapeBytes", show(impl.UnescapeBytes(special, nil)), show(impl.UnescapeBytes(special, []int64{}))},
		{"UnescapeBytes without special bytes", show(impl.UnescapeBytes(nil, nil)), show(impl.UnescapeBytes([]int64{}, []int64{}))},
		{"CobsBytes", show(impl.CobsBytes(nil)), show(impl.CobsBytes([]int64{}))},
		{"UncobsBytes", show(impl.UncobsBytes(nil)), show(impl.UncobsBytes([]int64{}))},
	})
}

func TestPromise1FramesAndBytesShareNoMemory(t *testing.T) {
	s := impl.Stuffer{After: 2, Bit: 1}
	special := []int64{125, 126}
	for name, call := range map[string]func() any{
		"DeframeBits": func() any {
			frames, _ := impl.DeframeBits(s, "01110101110110001110")
			return frames
		},
		"CountStuffed": func() any {
			counts, _ := impl.CountStuffed(s, 9)
			return counts
		},
		"EscapeBytes": func() any {
			long, _ := impl.EscapeBytes(special, []int64{1, 126, 125})
			return long
		},
		"UnescapeBytes": func() any {
			plain, _ := impl.UnescapeBytes(special, []int64{1, 125, 94, 125, 93})
			return plain
		},
		"CobsBytes": func() any {
			long, _ := impl.CobsBytes([]int64{1, 0, 2})
			return long
		},
		"UncobsBytes": func() any {
			plain, _ := impl.UncobsBytes([]int64{2, 1, 2, 2})
			return plain
		},
	} {
		first, second := call(), call()
		want := show(second)
		fill(reflect.ValueOf(first), 43)
		if got := show(second); got != want || show(first) == want {
			t.Errorf("%s: a result has become %s instead of %s when another one was overwritten", name, got, want)
		}
	}
}

package tests

import (
	"math"
	"reflect"
	"strings"
	"testing"

	"loop.example/g01142/impl"
)

var chapter3 = map[string]any{
	"ValidBlockCode": impl.ValidBlockCode,
	"DisparityOf":    impl.DisparityOf,
	"CountBalanced":  impl.CountBalanced,
	"MakeBlockCode":  impl.MakeBlockCode,
	"EncodeBlocks":   impl.EncodeBlocks,
	"DecodeBlocks":   impl.DecodeBlocks,
	"SumRange":       impl.SumRange,
	"RunBound":       impl.RunBound,
	"IsComma":        impl.IsComma,
	"CommasOf":       impl.CommasOf,
	"FlipEffect":     impl.FlipEffect,
}

var chapter3Numbers = []int64{
	math.MinInt64, -13, -1, 0, 1, 2, 3, 6, 8, 12, 62, 64, math.MaxInt64 - 1, math.MaxInt64,
}

var chapter3Texts = []string{
	"", "0", "1", "01", "111010", "01111000", "012", "\xff\xff",
	strings.Repeat("1", 13), strings.Repeat("0", 14), strings.Repeat("0110", 33), strings.Repeat("01", 200),
	strings.Repeat("0", 402), strings.Repeat("01", 5000),
}

var dataPool = [][]int64{
	nil, {}, {0}, {1}, {0, 1, 1}, {6, 6}, {63, 0, 62}, {64}, {-1}, {0, math.MinInt64}, {math.MaxInt64, 0},
	repeated[int64](1, 33), repeated[int64](7, 34), repeated[int64](1, 200), repeated[int64](0, 201),
}

// codePool has valid codes of several sizes and some that are not valid.
func codePool() []impl.BlockCode {
	var codes []impl.BlockCode
	for _, sizes := range [][2]int64{{1, 2}, {3, 4}, {5, 6}, {6, 12}, {1, 14}} {
		c, _ := makeReference(sizes[0], sizes[1])
		codes = append(codes, c)
	}
	both := []string{"01", "10"}
	return append(codes, codeOf(1, 2, []string{"01", "11"}, []string{"10", "00"}),
		codeOf(1, 4, []string{"1110", "0111"}, []string{"0001", "0010"}),
		impl.BlockCode{}, codeOf(1, 2, []string{}, []string{}), codeOf(1, 2, both, nil), codeOf(1, 0, both, both),
		codeOf(-1, 2, both, both), codeOf(math.MinInt64, math.MaxInt64, both, both), codeOf(math.MaxInt64, math.MinInt64, both, both),
		codeOf(64, 2, both, both), codeOf(1, 3, both, both), codeOf(1, 2, both, []string{"10", "01"}),
		codeOf(1, 2, []string{"01", "1\xff"}, both), codeOf(1, 2, both, []string{"", strings.Repeat("01", 5000)}))
}

func TestPromise1Chapter3(t *testing.T) {
	checkChapter(t, chapter3, poolsOf(pooled(chapter3Texts), pooled(chapter3Numbers), pooled(dataPool), pooled(codePool())))
}

func TestPromise1NilAndEmptyDataAndCodesAreTheSame(t *testing.T) {
	c, _ := makeReference(1, 2)
	none, empty := codeOf(1, 2, nil, nil), codeOf(1, 2, []string{}, []string{})
	expect(t, []row{
		{"ValidBlockCode without words", show(impl.ValidBlockCode(none)), show(impl.ValidBlockCode(empty))},
		{"EncodeBlocks of no data", encodeText(c, -1, nil), encodeText(c, -1, []int64{})},
		{"FlipEffect of no data", flipText(c, -1, nil, 0), flipText(c, -1, []int64{}, 0)},
	})
}

func TestPromise1CodesAndDataShareNoMemory(t *testing.T) {
	c, _ := makeReference(3, 4)
	for name, call := range map[string]func() []any{
		"MakeBlockCode": func() []any {
			made, _ := impl.MakeBlockCode(3, 4)
			return []any{made}
		},
		"DecodeBlocks": func() []any {
			data, wrong, _, _ := impl.DecodeBlocks(c, -1, strings.Repeat("1", 12))
			return []any{data, wrong}
		},
		"CommasOf": func() []any {
			commas, _ := impl.CommasOf(c, 5)
			return []any{commas}
		},
	} {
		first, second := call(), call()
		want := show(second...)
		var results []reflect.Value
		for _, result := range first {
			results = append(results, reflect.ValueOf(result))
		}
		if !canBeOverwritten(results) {
			t.Errorf("%s: two lists of a result share memory", name)
		}
		if got := show(second...); got != want {
			t.Errorf("%s: a result has become %s instead of %s when another one was overwritten", name, got, want)
		}
	}
}

package tests

import (
	"fmt"
	"math"
	"reflect"
	"slices"
	"strings"
	"testing"

	"loop.example/g01142/impl"
)

var chapter7 = map[string]any{
	"SampleTimes":      impl.SampleTimes,
	"IsTolerated":      impl.IsTolerated,
	"LongestTolerated": impl.LongestTolerated,
	"TakeRange":        impl.TakeRange,
	"EdgesOf":          impl.EdgesOf,
	"JitterTolerated":  impl.JitterTolerated,
	"FillAt":           impl.FillAt,
	"BufferTime":       impl.BufferTime,
	"BufferSpan":       impl.BufferSpan,
	"RepeatBits":       impl.RepeatBits,
	"VoteBits":         impl.VoteBits,
}

var chapter7Numbers = []int64{
	math.MinInt64, -1001, -1, 0, 1, 2, 3, 4, 10, 15, 64, 65, 100, 101, 1000, 1001, 1000000, 1000001, math.MaxInt64 - 1, math.MaxInt64,
}

// receiverNumbers are fewer ones, as they are tried with all texts and all jitter.
var receiverNumbers = []int64{math.MinInt64, 1, 2, 3, 10, 1000, 1001, math.MaxInt64}

var chapter7Texts = []string{
	"", "0", "1", "01", "000111", "00110", "010", "012", "0\xff", strings.Repeat("1", 15), strings.Repeat("0", 100), strings.Repeat("01", 50),
	strings.Repeat("1", 101), strings.Repeat("01", 200), strings.Repeat("0", 401), strings.Repeat("01", 5000),
}

// jitterPool has jitter of all kinds, and lists that are none.
func jitterPool() [][]int64 {
	return [][]int64{
		nil, {}, {0}, {1}, {-1}, {0, 0}, {0, 1}, {0, -1}, {0, 5, -5}, {0, 0, 0}, {0, -2, 2}, {1, 0, 0}, {0, 1000, -1000}, {0, 1001, 0},
		{math.MinInt64}, {0, math.MinInt64}, {0, math.MaxInt64}, {math.MinInt64, math.MaxInt64}, make([]int64, 100), make([]int64, 101), make([]int64, 1000),
	}
}

func TestPromise1Chapter7(t *testing.T) {
	checkChapter(t, chapter7, poolsOf(pooled(chapter7Texts), pooled(chapter7Numbers)))
	receivers := map[string]any{"ReceiveBits": impl.ReceiveBits}
	checkChapter(t, receivers, poolsOf(pooled(chapter7Texts), pooled(receiverNumbers), pooled(jitterPool())))
}

func TestPromise1NilAndEmptyJitterAreTheSame(t *testing.T) {
	for _, bits := range []string{"", "0", "01"} {
		none, empty := receiveText(bits, 10, 10), show(impl.ReceiveBits(bits, 10, 10, []int64{}))
		if none != empty || none != show(impl.ReceiveBits(bits, 10, 10, nil)) {
			t.Errorf("%s: got %s and %s", bits, none, empty)
		}
	}
}

// Lines, receivers and buffers of one call leave nothing to the next one, whatever has been called before it.
func TestPromise1ClocksAreNotKept(t *testing.T) {
	jitter := []int64{0, 2, -2}
	calls := func() string {
		return strings.Join([]string{
			show(impl.SampleTimes(10, 9, 3)), show(impl.IsTolerated(10, 11, 5)), show(impl.LongestTolerated(10, 11)), show(impl.TakeRange(10, 3)),
			show(impl.EdgesOf("00110")), show(impl.ReceiveBits("00110", 10, 10, jitter)), show(impl.JitterTolerated(10, 10, 3)),
			show(impl.FillAt(10, 11, 2, 230)), show(impl.BufferTime(10, 11, 4, 2)), show(impl.BufferSpan(10, 11, 4)),
			show(impl.RepeatBits("01", 3)), show(impl.VoteBits("010101", 3)),
		}, "; ")
	}
	first := calls()
	for _, bits := range chapter7Texts {
		for _, n := range chapter7Numbers {
			impl.ReceiveBits(bits, n, 2, noJitter(bits))
			impl.ReceiveBits("010", 10, n, []int64{0, 10, 0})
			impl.BufferTime(n, 10, 64, 0)
			impl.BufferSpan(10, n, 64)
			impl.RepeatBits(bits, n)
			impl.VoteBits(bits, n)
			if again := calls(); again != first {
				t.Fatalf("behind %s %d: got %s, and first %s", bits, n, again, first)
			}
		}
	}
	if !slices.Equal(jitter, []int64{0, 2, -2}) {
		t.Errorf("the jitter has become %v", jitter)
	}
}

// Receivers that work at the same time have nothing to do with each other.
func TestPromise1ReceiversAtTheSameTime(t *testing.T) {
	for i := range int64(40) {
		t.Run(fmt.Sprint(i), func(t *testing.T) {
			t.Parallel()
			bits := equalRuns(1+i%5, 60+i)
			for range 50 {
				checkReceiving(t, bits, 2+i, 2+40-i, noJitter(bits))
			}
		})
	}
}

// A list that is returned stays what it is when another one, or the jitter, is overwritten.
func TestPromise1ResultsOfClocksShareNoMemory(t *testing.T) {
	for _, get := range []func() ([]int64, bool){
		func() ([]int64, bool) { return impl.SampleTimes(10, 9, 100) },
		func() ([]int64, bool) { return impl.EdgesOf("00110") },
		func() ([]int64, bool) { return impl.EdgesOf(strings.Repeat("01", 200)) },
	} {
		first, _ := get()
		second, _ := get()
		want := show(second)
		fill(reflect.ValueOf(first), 43)
		if got := show(second); got != want {
			t.Errorf("a list has become %s instead of %s when another one was overwritten", got, want)
		}
	}
	jitter := []int64{0, 2, -2}
	got, ok := impl.ReceiveBits("00110", 10, 10, jitter)
	before := strings.Clone(got)
	fill(reflect.ValueOf(jitter), 43)
	if got != before || got != "00110" || !ok {
		t.Errorf("%s has become %s, %v", before, got, ok)
	}
}

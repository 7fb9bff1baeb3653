package tests

import (
	"fmt"
	"math"
	"reflect"
	"slices"
	"strings"
	"testing"

	"loop.example/g01142/impl"
)

var chapter9 = map[string]any{
	"QuietChance":      impl.QuietChance,
	"SuccessChance":    impl.SuccessChance,
	"BestChance":       impl.BestChance,
	"DifferentChance":  impl.DifferentChance,
	"FirstAloneChance": impl.FirstAloneChance,
	"BackoffRun":       impl.BackoffRun,
	"SplitRun":         impl.SplitRun,
	"SplitMean":        impl.SplitMean,
	"PollCycle":        impl.PollCycle,
	"TokenRounds":      impl.TokenRounds,
	"ReserveSlots":     impl.ReserveSlots,
}

var chapter9Numbers = []int64{
	math.MinInt64, math.MinInt64 + 1, -1001, -1, 0, 1, 2, 3, 5, 11, 12, 13, 20, 21, 300, 1000, 1001, 1 << 32, math.MaxInt64 - 1, math.MaxInt64,
}

// needPool has needs of all kinds, and lists that are none.
func needPool() [][]int64 {
	return [][]int64{
		nil, {}, {0}, {1}, {1000}, {1001}, {-1}, {2, 0, 1}, {0, 0, 0}, {3, 1000, 0, 7}, {2, 1001}, {math.MinInt64, 1}, {1, math.MaxInt64},
		make([]int64, 12), make([]int64, 13), repeated[int64](25, 12), repeated[int64](26, 12), repeated[int64](1000, 12), repeated[int64](1, 1000),
	}
}

// counterPool has lists of counters of all kinds, and lists that are none.
func counterPool() [][][]int64 {
	return [][][]int64{
		nil, {}, {nil}, {{}}, {{0}}, {{20}}, {{21}}, {{-1}}, {{0, 1}, {0, 0}, {2}}, {{1, 2}, {}}, {{0}, {0}}, {{0, 5}, {0, 5}, {0, 5, 1}},
		{{math.MinInt64}}, {{0}, {1, math.MaxInt64}}, repeated([]int64{0, 1}, 12), repeated([]int64{0}, 13), {make([]int64, 40)}, {make([]int64, 41)},
		repeated(repeated[int64](20, 40), 2), {longBackoff(5), longBackoff(20), longBackoff(6)},
	}
}

// coinPool has coins of all kinds, and texts that are none.
func coinPool() [][]string {
	return [][]string{
		nil, {}, {""}, {"0"}, {"2"}, {"01", "1", "00"}, {"0", "0"}, {"0", "1"}, {"", ""}, {"01", "0x"}, {"\xff", "0"}, {"11", "01", "10", "00"},
		textsOf(4)[:12], textsOf(4)[:13], make([]string, 1000), {strings.Repeat("0", 40)}, {strings.Repeat("0", 41)},
		pairsTogether(38, 38, 38, 32), pairsTogether(38, 38, 38, 33), {strings.Repeat("01", 5000)},
	}
}

func TestPromise1Chapter9(t *testing.T) {
	checkChapter(t, chapter9, poolsOf(pooled(chapter9Numbers), pooled(slices.Concat(notChances, fractionPool)),
		pooled(needPool()), pooled(counterPool()), pooled(coinPool())))
}

func TestPromise1NilAndEmptyStationsAreTheSame(t *testing.T) {
	expect(t, []row{
		{"BackoffRun", show(impl.BackoffRun(nil)), show(impl.BackoffRun([][]int64{}))},
		{"BackoffRun of a list", show(impl.BackoffRun([][]int64{nil})), show(impl.BackoffRun([][]int64{{}}))},
		{"SplitRun", show(impl.SplitRun(nil)), show(impl.SplitRun([]string{}))},
		{"PollCycle", show(impl.PollCycle(nil, 1)), show(impl.PollCycle([]int64{}, 1))},
		{"TokenRounds", show(impl.TokenRounds(nil, 1, 1)), show(impl.TokenRounds([]int64{}, 1, 1))},
		{"ReserveSlots", show(impl.ReserveSlots(nil, 1)), show(impl.ReserveSlots([]int64{}, 1))},
	})
}

// slotCalls calls all functions of chapter 9, and returns all that they return.
func slotCalls() string {
	half := impl.Fraction{Num: 1, Den: 2}
	return strings.Join([]string{
		show(impl.QuietChance(3, half)), show(impl.SuccessChance(3, half)), show(impl.BestChance(3)),
		show(impl.DifferentChance(3, 5)), show(impl.FirstAloneChance(3, 5)),
		show(impl.BackoffRun([][]int64{{0, 1}, {0, 0}, {2}})), show(impl.SplitRun([]string{"01", "1", "00"})), show(impl.SplitMean(12)),
		show(impl.PollCycle([]int64{2, 0, 1}, 1)), show(impl.TokenRounds([]int64{2, 0, 1}, 1, 1)), show(impl.ReserveSlots([]int64{2, 0, 3}, 2)),
	}, "; ")
}

// Stations, means and frames of one call leave nothing to the next one, whatever has been called before it.
func TestPromise1SlotsAreNotKept(t *testing.T) {
	first := slotCalls()
	for _, n := range chapter9Numbers {
		for _, needs := range needPool() {
			impl.SplitMean(n)
			impl.PollCycle(needs, n)
			impl.TokenRounds(needs, n, 3)
			impl.ReserveSlots(needs, n)
			impl.SuccessChance(n, impl.Fraction{Num: 1, Den: 3})
			impl.FirstAloneChance(n, 7)
		}
		for _, counters := range counterPool() {
			impl.BackoffRun(counters)
		}
		for _, coins := range coinPool() {
			impl.SplitRun(coins)
		}
		if again := slotCalls(); again != first {
			t.Fatalf("behind %d: got %s, and first %s", n, again, first)
		}
	}
}

// Runs at the same time have nothing to do with each other.
func TestPromise1SlotsAtTheSameTime(t *testing.T) {
	first := slotCalls()
	for i := range 40 {
		t.Run(fmt.Sprint(i), func(t *testing.T) {
			t.Parallel()
			for range 50 {
				checkBackoff(t, [][]int64{longBackoff(int64(i) % 21), {0, 3}, longBackoff(7), {0, 5}})
				checkSplit(t, pairsTogether(1+i%38, 2, 38, 3))
				checkTurns(t, []int64{int64(i), 0, 20}, int64(i)+1, 3)
				if again := slotCalls(); again != first {
					t.Errorf("got %s, and first %s", again, first)
				}
			}
		})
	}
}

// A list that is returned stays what it is when another one, or an argument, is overwritten.
func TestPromise1ResultsOfSlotsShareNoMemory(t *testing.T) {
	counters := [][]int64{{0, 1}, {0, 0}, {2}}
	needs := []int64{2, 0, 3}
	for name, get := range map[string]func() []any{
		"BackoffRun": func() []any {
			sent, done, _ := impl.BackoffRun(counters)
			return []any{sent, done}
		},
		"SplitRun": func() []any {
			sent, order, _ := impl.SplitRun([]string{"01", "1", "00"})
			return []any{sent, order}
		},
		"PollCycle": func() []any {
			asked, _, _ := impl.PollCycle(needs, 1)
			return []any{asked}
		},
		"TokenRounds": func() []any {
			done, _, _ := impl.TokenRounds(needs, 1, 1)
			return []any{done}
		},
		"ReserveSlots": func() []any {
			lists, _ := impl.ReserveSlots(needs, 2)
			return []any{lists}
		},
	} {
		first, second := get(), get()
		want := show(second...)
		for _, list := range first {
			fill(reflect.ValueOf(list), 43)
		}
		if got := show(second...); got != want {
			t.Errorf("%s: %s has become %s when another result was overwritten", name, want, got)
		}
		if got := show(counters, needs); got != "[[0 1] [0 0] [2]] [2 0 3]" {
			t.Errorf("%s: the arguments have become %s", name, got)
		}
	}
	sent, done, _ := impl.BackoffRun(counters)
	asked, _, _ := impl.PollCycle(needs, 1)
	ends, _, _ := impl.TokenRounds(needs, 1, 1)
	lists, _ := impl.ReserveSlots(needs, 2)
	want := show(sent, done, asked, ends, lists)
	fill(reflect.ValueOf(counters), 44)
	fill(reflect.ValueOf(needs), 44)
	if got := show(sent, done, asked, ends, lists); got != want {
		t.Errorf("%s has become %s when the arguments were overwritten", want, got)
	}
}

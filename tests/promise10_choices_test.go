package tests

import (
	"fmt"
	"math"
	"math/big"
	"slices"
	"testing"

	"loop.example/g01142/impl"
)

// notWindows are numbers of slots which no window and no frame has.
var notWindows = []int64{
	0, -1, -2, -19, -20, 21, 22, 40, 300, 1 << 32, 1<<32 + 1, 1<<32 + 20, -1<<32 + 2,
	math.MinInt64, math.MinInt64 + 1, math.MinInt64 + 2, math.MinInt64 + 20, math.MaxInt64 - 1, math.MaxInt64,
}

// eachWindow calls a function for all numbers of stations and of slots.
func eachWindow(check func(stations, window int)) {
	for stations := 1; stations <= 12; stations++ {
		for window := 1; window <= 20; window++ {
			check(stations, window)
		}
	}
}

// choicesOf returns how many ways there are for stations to choose slots.
func choicesOf(stations, window int) *big.Int {
	return new(big.Int).Exp(big.NewInt(int64(window)), big.NewInt(int64(stations)), nil)
}

// differentReference counts the ways in which all choose different slots: the last slot is chosen by none, or by one of them.
func differentReference(stations, window int) *big.Int {
	if stations == 0 {
		return big.NewInt(1)
	}
	if window == 0 {
		return big.NewInt(0)
	}
	chosen := differentReference(stations-1, window-1)
	chosen.Mul(chosen, big.NewInt(int64(stations)))
	return chosen.Add(chosen, differentReference(stations, window-1))
}

// aloneReference counts the ways in which the first chosen slot is chosen by one alone: the stations choose
// one after another, and all ways are counted by the first slot that has been chosen, and whether by one alone.
func aloneReference(stations, window int) *big.Int {
	alone, shared := make([]*big.Int, window), make([]*big.Int, window)
	for slot := range window {
		alone[slot], shared[slot] = big.NewInt(1), big.NewInt(0)
	}
	for range stations - 1 {
		nextAlone, nextShared := make([]*big.Int, window), make([]*big.Int, window)
		for slot := range window {
			later := big.NewInt(int64(window - 1 - slot))
			// It stays the first one alone if the next station chooses a later one,
			nextAlone[slot] = new(big.Int).Mul(alone[slot], later)
			nextShared[slot] = new(big.Int).Mul(shared[slot], later)
			// it is shared if the station chooses the same one,
			nextShared[slot].Add(nextShared[slot], alone[slot])
			nextShared[slot].Add(nextShared[slot], shared[slot])
			// and the station is alone in it if all before have chosen later ones.
			for _, before := range append(slices.Clone(alone[slot+1:]), shared[slot+1:]...) {
				nextAlone[slot].Add(nextAlone[slot], before)
			}
		}
		alone, shared = nextAlone, nextShared
	}
	sum := big.NewInt(0)
	for _, count := range alone {
		sum.Add(sum, count)
	}
	return sum
}

func checkWindow(t *testing.T, stations, window int, different, alone *big.Int) {
	t.Helper()
	all := choicesOf(stations, window)
	name := fmt.Sprint(stations, " ", window)
	expect(t, []row{
		{"DifferentChance " + name, show(impl.DifferentChance(int64(stations), int64(window))), showRat(new(big.Rat).SetFrac(different, all))},
		{"FirstAloneChance " + name, show(impl.FirstAloneChance(int64(stations), int64(window))), showRat(new(big.Rat).SetFrac(alone, all))},
	})
}

func TestPromise10AllWindows(t *testing.T) {
	eachWindow(func(stations, window int) {
		checkWindow(t, stations, window, differentReference(stations, window), aloneReference(stations, window))
	})
}

// All choices are tried one after the other: each station waits for the slot that it has chosen, and has no second try.
func TestPromise10WindowsByTrying(t *testing.T) {
	eachWindow(func(stations, window int) {
		if choicesOf(stations, window).Cmp(big.NewInt(200000)) > 0 {
			return
		}
		var different, alone int64
		eachChoice(stations, window, func(choice []int) {
			first := slices.Min(choice)
			if slices.Index(choice[slices.Index(choice, first)+1:], first) < 0 {
				alone++
			}
			sorted := slices.Sorted(slices.Values(choice))
			if len(slices.Compact(sorted)) == stations {
				different++
			}
		})
		checkWindow(t, stations, window, big.NewInt(different), big.NewInt(alone))
	})
}

// Stations that count down from what they have chosen succeed all, or first, as often as the chances tell.
func TestPromise10WindowsAreCountedDown(t *testing.T) {
	eachWindow(func(stations, window int) {
		if choicesOf(stations, window).Cmp(big.NewInt(10000)) > 0 {
			return
		}
		var different, alone int64
		eachChoice(stations, window, func(choice []int) {
			lists := make([][]int64, stations)
			for n, slot := range choice {
				lists[n] = []int64{int64(slot)}
			}
			sent, done, _ := impl.BackoffRun(lists)
			if !slices.Contains(done, -1) {
				different++
			}
			if first := slices.IndexFunc(sent, func(count int64) bool { return count > 0 }); first >= 0 && sent[first] == 1 {
				alone++
			}
		})
		checkWindow(t, stations, window, big.NewInt(different), big.NewInt(alone))
	})
}

// A further slot makes it likelier that all are different, and a further station less so.
func TestPromise10WindowsGrow(t *testing.T) {
	eachWindow(func(stations, window int) {
		if window == 20 || stations == 12 {
			return
		}
		n, slots := int64(stations), int64(window)
		for name, get := range map[string]func(n, slots int64) (impl.Fraction, bool){
			"DifferentChance": impl.DifferentChance, "FirstAloneChance": impl.FirstAloneChance,
		} {
			chance, _ := get(n, slots)
			wider, _ := get(n, slots+1)
			more, _ := get(n+1, slots)
			up, isUp := impl.CompareFractions(wider, chance)
			down, isDown := impl.CompareFractions(more, chance)
			if !isUp || !isDown || up < 0 || name == "DifferentChance" && down > 0 {
				t.Errorf("%s %d %d: %v, with one slot more %v, and with one station more %v", name, n, slots, chance, wider, more)
			}
		}
	})
}

func TestPromise10WindowExamples(t *testing.T) {
	expect(t, []row{
		{"2 stations and 2 slots are different", show(impl.DifferentChance(2, 2)), "{1 2} true"},
		{"3 stations and 2 slots are different", show(impl.DifferentChance(3, 2)), "{0 1} true"},
		{"one station is different", show(impl.DifferentChance(1, 1)), "{1 1} true"},
		{"one station of 20 slots is different", show(impl.DifferentChance(1, 20)), "{1 1} true"},
		{"12 stations and one slot are different", show(impl.DifferentChance(12, 1)), "{0 1} true"},
		{"12 stations and 11 slots are different", show(impl.DifferentChance(12, 11)), "{0 1} true"},
		{"12 stations and 12 slots are different", show(impl.DifferentChance(12, 12)), "{1925 35831808} true"},
		{"12 stations and 20 slots are different", show(impl.DifferentChance(12, 20)), "{235702467 16000000000} true"},
		{"2 stations and 2 slots, the first alone", show(impl.FirstAloneChance(2, 2)), "{1 2} true"},
		{"2 stations and one slot, the first alone", show(impl.FirstAloneChance(2, 1)), "{0 1} true"},
		{"one station, the first alone", show(impl.FirstAloneChance(1, 1)), "{1 1} true"},
		{"one station of 20 slots, the first alone", show(impl.FirstAloneChance(1, 20)), "{1 1} true"},
		{"3 stations and 2 slots, the first alone", show(impl.FirstAloneChance(3, 2)), "{3 8} true"},
		{"3 stations and 3 slots, the first alone", show(impl.FirstAloneChance(3, 3)), "{5 9} true"},
		{"12 stations and one slot, the first alone", show(impl.FirstAloneChance(12, 1)), "{0 1} true"},
		{"no station is different", show(impl.DifferentChance(0, 2)), noFraction},
		{"no station is alone", show(impl.FirstAloneChance(0, 2)), noFraction},
		{"13 stations are different", show(impl.DifferentChance(13, 20)), noFraction},
		{"13 stations, the first alone", show(impl.FirstAloneChance(13, 20)), noFraction},
		{"no slot, different", show(impl.DifferentChance(1, 0)), noFraction},
		{"no slot, alone", show(impl.FirstAloneChance(1, 0)), noFraction},
		{"21 slots, different", show(impl.DifferentChance(1, 21)), noFraction},
		{"21 slots, alone", show(impl.FirstAloneChance(1, 21)), noFraction},
	})
}

func TestPromise10WindowsThatFail(t *testing.T) {
	for _, stations := range notStations {
		for _, window := range []int64{1, 2, 12, 20, stations} {
			expect(t, []row{
				{fmt.Sprint("DifferentChance ", stations, window), show(impl.DifferentChance(stations, window)), noFraction},
				{fmt.Sprint("FirstAloneChance ", stations, window), show(impl.FirstAloneChance(stations, window)), noFraction},
			})
		}
	}
	for _, window := range notWindows {
		for stations := int64(1); stations <= 12; stations++ {
			expect(t, []row{
				{fmt.Sprint("DifferentChance ", stations, window), show(impl.DifferentChance(stations, window)), noFraction},
				{fmt.Sprint("FirstAloneChance ", stations, window), show(impl.FirstAloneChance(stations, window)), noFraction},
			})
		}
	}
}

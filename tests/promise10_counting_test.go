package tests

import (
	"fmt"
	"math"
	"math/rand"
	"slices"
	"testing"

	"loop.example/g01142/impl"
)

const noRun = `[] [] false`

// backoffReference runs stations that count down. As all of them count in the same slots, a station that
// takes a number sends when so many slots more have been empty.
func backoffReference(lists [][]int64) ([]int64, []int64) {
	due, tries, done := make([]int64, len(lists)), make([]int, len(lists)), repeated[int64](-1, len(lists))
	for n, list := range lists {
		due[n] = list[0]
	}
	var sent []int64
	for empty := int64(0); len(sent) < 300 && slices.Max(due) >= 0; {
		var senders []int
		for n := range lists {
			if due[n] == empty {
				senders = append(senders, n)
			}
		}
		for _, n := range senders {
			tries[n]++
			switch {
			case len(senders) == 1:
				due[n], done[n] = -1, int64(len(sent))
			case tries[n] == len(lists[n]):
				due[n] = -1
			default:
				due[n] = empty + lists[n][tries[n]]
			}
		}
		if len(senders) == 0 {
			empty++
		}
		sent = append(sent, int64(len(senders)))
	}
	return sent, done
}

// checkBackoff compares a run with the reference, and returns how many stations have sent in its slots, and the slots of success.
func checkBackoff(t *testing.T, lists [][]int64) ([]int64, []int64) {
	t.Helper()
	sent, done, ok := impl.BackoffRun(lists)
	wantSent, wantDone := backoffReference(lists)
	if show(sent, done, ok) != show(wantSent, wantDone, true) {
		t.Errorf("BackoffRun %v: got %v %v %v, want %v %v", lists, sent, done, ok, wantSent, wantDone)
		return nil, nil
	}
	checkSuccesses(t, fmt.Sprint("BackoffRun ", lists), sent, done)
	return sent, done
}

// checkSuccesses tells whether stations have succeeded in just the slots in which one alone has sent.
func checkSuccesses(t *testing.T, name string, sent, done []int64) {
	t.Helper()
	var alone []int64
	for slot, count := range sent {
		if count == 1 {
			alone = append(alone, int64(slot))
		}
		if count < 0 || count > int64(len(done)) {
			t.Errorf("%s: %d have sent in the slot %d", name, count, slot)
		}
	}
	succeeded := slices.DeleteFunc(slices.Sorted(slices.Values(done)), func(slot int64) bool { return slot == -1 })
	if !slices.Equal(alone, succeeded) || len(sent) == 0 || len(sent) > 300 {
		t.Errorf("%s: one alone sends in %v, and %v have succeeded, in %d slots", name, alone, succeeded, len(sent))
	}
}

// eachPick calls a function for all ways to pick one of some lists so many times.
func eachPick(lists [][]int64, times int, check func(picked [][]int64)) {
	eachChoice(times, len(lists), func(choice []int) {
		picked := make([][]int64, times)
		for n, at := range choice {
			picked[n] = lists[at]
		}
		check(picked)
	})
}

func TestPromise10SmallBackoffs(t *testing.T) {
	for _, c := range []struct {
		stations, length int
		numbers          []int64
	}{
		{1, 4, []int64{0, 1, 2, 3}}, {2, 4, []int64{0, 1, 2}}, {2, 3, []int64{0, 1, 2, 19, 20}}, {3, 3, []int64{0, 1, 2}},
		{3, 4, []int64{0, 1}}, {4, 3, []int64{0, 1}}, {5, 2, []int64{0, 1}}, {3, 2, []int64{0, 1, 3, 20}},
	} {
		lists := listsUpTo(c.length, c.numbers...)[1:]
		eachPick(lists, c.stations, func(picked [][]int64) { checkBackoff(t, picked) })
	}
}

// drawnCounters returns lists of counters, up to most, for some stations.
func drawnCounters(source *rand.Rand, stations, length int, most int64) [][]int64 {
	lists := make([][]int64, stations)
	for n := range lists {
		lists[n] = make([]int64, 1+source.Intn(length))
		for i := range lists[n] {
			lists[n][i] = source.Int63n(most + 1)
		}
	}
	return lists
}

func TestPromise10DrawnBackoffs(t *testing.T) {
	source := rand.New(rand.NewSource(191))
	long, unlucky := 0, 0
	for stations := 1; stations <= 12; stations++ {
		for _, length := range []int{1, 2, 5, 40} {
			for _, most := range []int64{0, 1, 2, 5, 20} {
				for range 60 {
					lists := drawnCounters(source, stations, length, most)
					// Equal lists make stations that send together again and again.
					if source.Intn(3) == 0 {
						lists[0] = slices.Clone(lists[stations-1])
					}
					sent, done := checkBackoff(t, lists)
					if len(sent) == 300 {
						long++
					} else if slices.Contains(done, -1) {
						unlucky++
					}
				}
			}
		}
	}
	if long < 30 || unlucky < 1000 {
		t.Errorf("only %d runs have all slots, and %d stations without success", long, unlucky)
	}
}

// The order of stations changes no slot: each list has the same success wherever it stands.
func TestPromise10BackoffsInAnyOrder(t *testing.T) {
	source := rand.New(rand.NewSource(192))
	for range 1000 {
		lists := drawnCounters(source, 2+source.Intn(11), 6, 6)
		sent, done, _ := impl.BackoffRun(lists)
		turned := slices.Clone(lists)
		slices.Reverse(turned)
		turnedSent, turnedDone, _ := impl.BackoffRun(turned)
		slices.Reverse(turnedDone)
		if !slices.Equal(sent, turnedSent) || !slices.Equal(done, turnedDone) {
			t.Errorf("BackoffRun %v: got %v %v, and turned %v %v", lists, sent, done, turnedSent, turnedDone)
		}
	}
}

// Two stations with equal lists send together in all slots of theirs, and neither succeeds.
func TestPromise10EqualBackoffs(t *testing.T) {
	source := rand.New(rand.NewSource(193))
	for range 500 {
		list := drawnCounters(source, 1, 40, 20)[0]
		var want []int64
		for _, n := range list {
			want = append(want, make([]int64, n)...)
			want = append(want, 2)
		}
		want = want[:min(len(want), 300)]
		expect(t, []row{{fmt.Sprint("BackoffRun twice ", list), show(impl.BackoffRun([][]int64{list, list})), show(want, []int64{-1, -1}, true)}})
	}
}

// counting returns the numbers from 0 on.
func counting(count int) []int64 {
	list := make([]int64, count)
	for i := range list {
		list[i] = int64(i)
	}
	return list
}

// One station succeeds in the slot with the number of its first counter, and does not need the others.
func TestPromise10OneStationCountsDown(t *testing.T) {
	for n := int64(0); n <= 20; n++ {
		for _, rest := range [][]int64{nil, {0}, {20, 20}, make([]int64, 39)} {
			list := append([]int64{n}, rest...)
			want := append(make([]int64, n), 1)
			expect(t, []row{{fmt.Sprint("BackoffRun ", list), show(impl.BackoffRun([][]int64{list})), show(want, []int64{n}, true)}})
		}
	}
}

// longBackoff returns 14 counters that last 294 slots if two stations have them, and one more.
func longBackoff(last int64) []int64 { return append(repeated[int64](20, 14), last) }

func TestPromise10LongBackoffs(t *testing.T) {
	together := append(make([]int64, 20), 2)
	var sent []int64
	for range 14 {
		sent = append(sent, together...)
	}
	all := append(slices.Clone(sent), together[:6]...)
	last := append(slices.Clone(sent), 0, 0, 0, 0, 0, 1)
	expect(t, []row{
		{"all slots, and none at their end", show(impl.BackoffRun(repeated(repeated[int64](20, 40), 2))), show(all, []int64{-1, -1}, true)},
		{"all slots for 12 stations", show(len(backoffSlots(repeated(repeated[int64](20, 40), 12)))), "300"},
		{"one succeeds in the last slot", show(impl.BackoffRun([][]int64{longBackoff(5), longBackoff(20)})), show(last, []int64{299, -1}, true)},
		{"the other one succeeds in the last slot", show(impl.BackoffRun([][]int64{longBackoff(6), longBackoff(5)})), show(last, []int64{-1, 299}, true)},
		{"one would succeed behind the last slot", show(impl.BackoffRun([][]int64{longBackoff(6), longBackoff(7)})), show(all, []int64{-1, -1}, true)},
		{"both give up in the last slot", show(impl.BackoffRun([][]int64{longBackoff(5), longBackoff(5)})), show(append(all[:299:299], 2), []int64{-1, -1}, true)},
		{"both would give up behind the last slot", show(impl.BackoffRun([][]int64{longBackoff(6), longBackoff(6)})), show(all, []int64{-1, -1}, true)},
		{"both succeed in the last two slots", show(impl.BackoffRun([][]int64{longBackoff(3), longBackoff(4)})), show(append(slices.Clone(sent), 0, 0, 0, 1, 0, 1), []int64{297, 299}, true)},
		{"both succeed before the last slot", show(impl.BackoffRun([][]int64{longBackoff(2), longBackoff(3)})), show(append(slices.Clone(sent), 0, 0, 1, 0, 1), []int64{296, 298}, true)},
	})
}

func backoffSlots(lists [][]int64) []int64 {
	sent, _, _ := impl.BackoffRun(lists)
	return sent
}

func TestPromise10BackoffExamples(t *testing.T) {
	inTurn := make([][]int64, 12)
	for n := range inTurn {
		inTurn[n] = []int64{int64(n)}
	}
	everySecond := []int64{1}
	for range 11 {
		everySecond = append(everySecond, 0, 1)
	}
	var evenSlots []int64
	for slot := int64(0); slot < 24; slot += 2 {
		evenSlots = append(evenSlots, slot)
	}
	zeros := make([]int64, 40)
	expect(t, []row{
		{"the three of the example", show(impl.BackoffRun([][]int64{{0, 1}, {0, 0}, {2}})), "[2 1 0 1 0 1] [3 1 5] true"},
		{"one station", show(impl.BackoffRun([][]int64{{0}})), "[1] [0] true"},
		{"one station with 20", show(impl.BackoffRun([][]int64{{20}})), show(append(make([]int64, 20), 1), []int64{20}, true)},
		{"one station with 40 counters", show(impl.BackoffRun([][]int64{zeros})), "[1] [0] true"},
		{"12 stations that send at once", show(impl.BackoffRun(repeated([]int64{0}, 12))), show([]int64{12}, repeated[int64](-1, 12), true)},
		{"12 stations that send at once 40 times", show(impl.BackoffRun(repeated(zeros, 12))), show(repeated[int64](12, 40), repeated[int64](-1, 12), true)},
		{"12 stations in turn", show(impl.BackoffRun(inTurn)), show(everySecond, evenSlots, true)},
		{"two stations of which one runs out", show(impl.BackoffRun([][]int64{{0}, {0, 0}})), "[2 1] [-1 1] true"},
		{"the other one runs out", show(impl.BackoffRun([][]int64{{0, 2}, {0}})), "[2 0 0 1] [3 -1] true"},
		{"both run out", show(impl.BackoffRun([][]int64{{1, 0}, {1, 0}})), "[0 2 2] [-1 -1] true"},
		{"a success does not count down", show(impl.BackoffRun([][]int64{{0}, {1}})), "[1 0 1] [0 2] true"},
		{"several that send do not count down", show(impl.BackoffRun([][]int64{{0}, {0}, {1}})), "[2 0 1] [-1 -1 2] true"},
		{"numbers that have just been taken stay", show(impl.BackoffRun([][]int64{{0, 1}, {0, 2}})), "[2 0 1 0 1] [2 4] true"},
		{"a number meets an older counter", show(impl.BackoffRun([][]int64{{0, 1}, {0, 1, 3}, {1, 0}})), "[2 0 3 1 0 0 0 1] [-1 7 3] true"},
		{"a first number of 0 behind others", show(impl.BackoffRun([][]int64{{1}, {0}})), "[1 0 1] [2 0] true"},
		{"no list", show(impl.BackoffRun(nil)), noRun},
		{"an empty list of lists", show(impl.BackoffRun([][]int64{})), noRun},
		{"13 lists", show(impl.BackoffRun(repeated([]int64{0}, 13))), noRun},
		{"a list without a number", show(impl.BackoffRun([][]int64{{}})), noRun},
		{"a list without a number behind others", show(impl.BackoffRun([][]int64{{0}, {1, 2}, nil})), noRun},
		{"41 counters", show(impl.BackoffRun([][]int64{make([]int64, 41)})), noRun},
		{"a counter below 0", show(impl.BackoffRun([][]int64{{-1}})), noRun},
		{"a counter above 20", show(impl.BackoffRun([][]int64{{21}})), noRun},
	})
}

// notCounters are numbers that no counter has.
var notCounters = []int64{
	-1, -2, -20, 21, 22, 256, 1 << 32, 1<<32 + 1, -1 << 32, math.MinInt64, math.MinInt64 + 1, math.MaxInt64 - 1, math.MaxInt64,
}

// A number that is no counter makes a run fail wherever it stands, also if it would never be taken.
func TestPromise10BackoffsThatFail(t *testing.T) {
	for _, n := range notCounters {
		for stations := range 12 {
			for _, at := range []int{0, 1, 2, 20, 39} {
				lists := repeated([]int64{3}, stations+1)
				lists[stations/2] = append(counting(20), counting(20)...)
				lists[stations/2][at] = n
				expect(t, []row{{fmt.Sprint("BackoffRun ", lists), show(impl.BackoffRun(lists)), noRun}})
			}
		}
	}
	for stations := range 12 {
		for _, list := range [][]int64{nil, {}, make([]int64, 41), make([]int64, 42), make([]int64, 1000)} {
			lists := repeated([]int64{0, 20}, 12)
			lists[stations] = list
			expect(t, []row{{fmt.Sprint("BackoffRun ", lists), show(impl.BackoffRun(lists)), noRun}})
		}
	}
	for _, stations := range []int{13, 14, 24, 100, 1000} {
		expect(t, []row{{fmt.Sprint("BackoffRun of ", stations), show(impl.BackoffRun(repeated([]int64{0}, stations))), noRun}})
	}
}

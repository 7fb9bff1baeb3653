package tests

import (
	"fmt"
	"math"
	"math/rand"
	"slices"
	"testing"

	"loop.example/g01142/impl"
)

const noTimes = `[] 0 false`

// notNeeds are numbers of frames that no station has, and times that no walk takes.
var notNeeds = []int64{
	-1, -2, -1000, -1001, 1001, 1002, 2000, 1 << 32, 1<<32 + 1, -1 << 32, math.MinInt64, math.MinInt64 + 1, math.MaxInt64 - 1, math.MaxInt64,
}

// invalidNeeds are lists that are no needs.
func invalidNeeds() [][]int64 {
	lists := [][]int64{nil, {}, make([]int64, 13), repeated[int64](1, 13), repeated[int64](1000, 14), make([]int64, 1000)}
	for _, n := range notNeeds {
		for stations := 1; stations <= 12; stations++ {
			for _, at := range []int{0, stations / 2, stations - 1} {
				list := repeated[int64](3, stations)
				list[at] = n
				lists = append(lists, list)
			}
		}
	}
	return lists
}

func sumOf(list []int64) int64 {
	var sum int64
	for _, n := range list {
		sum += n
	}
	return sum
}

// turnsBefore returns how many frames have been sent before a turn: the stations before one have had so many turns, and the others one less.
func turnsBefore(needs []int64, station int, turn, hold int64) int64 {
	var frames int64
	for n, need := range needs {
		turns := turn - 1
		if n < station {
			turns = turn
		}
		frames += min(need, turns*hold)
	}
	return frames
}

// askedReference returns when a station has its turn with a number, from 1 on.
func askedReference(needs []int64, station int, turn, hold, walk int64) int64 {
	walks := (turn-1)*int64(len(needs)) + int64(station)
	return turnsBefore(needs, station, turn, hold) + walks*walk
}

// checkTurns compares when stations are asked, and when they are done, with what they have sent before.
func checkTurns(t *testing.T, needs []int64, hold, walk int64) {
	t.Helper()
	asked, done := make([]int64, len(needs)), make([]int64, len(needs))
	for n, need := range needs {
		asked[n] = sumOf(needs[:n]) + int64(n)*walk
		if need > 0 {
			last := (need + hold - 1) / hold
			done[n] = askedReference(needs, n, last, hold, walk) + need - (last-1)*hold
		}
	}
	again := sumOf(needs) + int64(len(needs))*walk
	expect(t, []row{
		{fmt.Sprint("PollCycle ", needs, walk), show(impl.PollCycle(needs, walk)), show(asked, again, true)},
		{fmt.Sprint("TokenRounds ", needs, hold, walk), show(impl.TokenRounds(needs, hold, walk)), show(done, slices.Max(done), true)},
	})
}

func TestPromise10SmallTurns(t *testing.T) {
	for _, needs := range listsUpTo(4, 0, 1, 2, 3, 7)[1:] {
		for hold := int64(1); hold <= 4; hold++ {
			for _, walk := range []int64{0, 1, 5} {
				checkTurns(t, needs, hold, walk)
			}
		}
	}
}

// drawnNeeds returns needs of some stations; some have none, some the most, and some a multiple of hold.
func drawnNeeds(source *rand.Rand, stations int, most, hold int64) []int64 {
	needs := make([]int64, stations)
	for n := range needs {
		switch source.Intn(5) {
		case 0:
			needs[n] = 0
		case 1:
			needs[n] = most
		case 2:
			needs[n] = source.Int63n(most/hold+1) * hold
		default:
			needs[n] = source.Int63n(most + 1)
		}
	}
	return needs
}

func TestPromise10DrawnTurns(t *testing.T) {
	source := rand.New(rand.NewSource(201))
	for stations := 1; stations <= 12; stations++ {
		for _, hold := range []int64{1, 2, 3, 10, 100, 333, 500, 999, 1000} {
			for _, walk := range []int64{0, 1, 17, 999, 1000} {
				for _, most := range []int64{1, 10, 1000} {
					checkTurns(t, drawnNeeds(source, stations, most, hold), hold, walk)
				}
			}
		}
	}
}

// If all frames are sent in one turn, stations are done as soon as they have sent what they send when they are asked.
func TestPromise10TurnsOfOneRound(t *testing.T) {
	source := rand.New(rand.NewSource(202))
	for range 1000 {
		needs := drawnNeeds(source, 1+source.Intn(12), 1000, 1)
		walk := source.Int63n(1001)
		asked, _, isAsked := impl.PollCycle(needs, walk)
		done, _, isDone := impl.TokenRounds(needs, 1000, walk)
		for n, need := range needs {
			if want := asked[n] + need; !isAsked || !isDone || need > 0 && done[n] != want || need == 0 && done[n] != 0 {
				t.Errorf("%v %d: the station %d is done at %d, and asked at %d", needs, walk, n, done[n], asked[n])
			}
		}
	}
}

func TestPromise10TurnExamples(t *testing.T) {
	most := repeated[int64](1000, 12)
	askedMost := make([]int64, 12)
	doneMost := make([]int64, 12)
	slowest := make([]int64, 12)
	for n := range askedMost {
		askedMost[n] = 2000 * int64(n)
		doneMost[n] = 2000*int64(n) + 1000
		slowest[n] = 999*12*1001 + 1001*int64(n) + 1
	}
	expect(t, []row{
		{"asked", show(impl.PollCycle([]int64{2, 0, 1}, 1)), "[0 3 4] 6 true"},
		{"asked without walks", show(impl.PollCycle([]int64{2, 0, 1}, 0)), "[0 2 2] 3 true"},
		{"one is asked", show(impl.PollCycle([]int64{3}, 2)), "[0] 5 true"},
		{"one without frames is asked", show(impl.PollCycle([]int64{0}, 2)), "[0] 2 true"},
		{"one without frames and walks is asked", show(impl.PollCycle([]int64{0}, 0)), "[0] 0 true"},
		{"all are asked without frames", show(impl.PollCycle(make([]int64, 12), 1)), show(counting(12), 12, true)},
		{"all are asked without frames and walks", show(impl.PollCycle(make([]int64, 12), 0)), show(make([]int64, 12), 0, true)},
		{"all are asked with the most", show(impl.PollCycle(most, 1000)), show(askedMost, 24000, true)},
		{"needs of 0 and of 1000", show(impl.PollCycle([]int64{0, 1000, 0, 1000, 0}, 1000)), "[0 1000 3000 4000 6000] 7000 true"},
		{"nobody is asked", show(impl.PollCycle(nil, 1)), noTimes},
		{"nobody of an empty list is asked", show(impl.PollCycle([]int64{}, 1)), noTimes},
		{"13 are asked", show(impl.PollCycle(make([]int64, 13), 1)), noTimes},
		{"a walk of 1001", show(impl.PollCycle([]int64{1}, 1001)), noTimes},
		{"a walk of -1", show(impl.PollCycle([]int64{1}, -1)), noTimes},
		{"a need of 1001", show(impl.PollCycle([]int64{1001}, 1)), noTimes},
		{"a need of -1", show(impl.PollCycle([]int64{-1}, 1)), noTimes},
		{"a token", show(impl.TokenRounds([]int64{2, 0, 1}, 1, 1)), "[6 0 4] 6 true"},
		{"a token without walks", show(impl.TokenRounds([]int64{2, 0, 1}, 1, 0)), "[3 0 2] 3 true"},
		{"a token that is held longer", show(impl.TokenRounds([]int64{2, 0, 1}, 2, 1)), "[2 0 5] 5 true"},
		{"one with a token", show(impl.TokenRounds([]int64{3}, 1, 10)), "[23] 23 true"},
		{"one with a token for all", show(impl.TokenRounds([]int64{3}, 3, 10)), "[3] 3 true"},
		{"a multiple of hold", show(impl.TokenRounds([]int64{4, 4}, 2, 1)), "[8 11] 11 true"},
		{"one more than a multiple of hold", show(impl.TokenRounds([]int64{5, 4}, 2, 1)), "[13 11] 13 true"},
		{"one less than a multiple of hold", show(impl.TokenRounds([]int64{3, 4}, 2, 1)), "[7 10] 10 true"},
		{"a token without frames", show(impl.TokenRounds([]int64{0}, 1, 1)), "[0] 0 true"},
		{"a token for all without frames", show(impl.TokenRounds(make([]int64, 12), 1000, 1000)), show(make([]int64, 12), 0, true)},
		{"needs of 0 around one", show(impl.TokenRounds([]int64{0, 0, 1, 0}, 1, 1000)), "[0 0 2001 0] 2001 true"},
		{"all with the most, at once", show(impl.TokenRounds(most, 1000, 1000)), show(doneMost, 23000, true)},
		{"all with the most, one by one", show(impl.TokenRounds(most, 1, 1000)), show(slowest, 999*12*1001+11*1001+1, true)},
		{"one with the most, one by one", show(impl.TokenRounds([]int64{1000}, 1, 0)), "[1000] 1000 true"},
		{"nobody has a token", show(impl.TokenRounds(nil, 1, 1)), noTimes},
		{"nobody of an empty list has a token", show(impl.TokenRounds([]int64{}, 1, 1)), noTimes},
		{"13 have a token", show(impl.TokenRounds(make([]int64, 13), 1, 1)), noTimes},
		{"a hold of 0", show(impl.TokenRounds([]int64{2}, 0, 1)), noTimes},
		{"a hold of 1001", show(impl.TokenRounds([]int64{2}, 1001, 1)), noTimes},
		{"a token and a walk of 1001", show(impl.TokenRounds([]int64{2}, 1, 1001)), noTimes},
		{"a token and a walk of -1", show(impl.TokenRounds([]int64{2}, 1, -1)), noTimes},
		{"a hold of 0 without frames", show(impl.TokenRounds([]int64{0}, 0, 1)), noTimes},
	})
}

func TestPromise10TurnsThatFail(t *testing.T) {
	for _, needs := range invalidNeeds() {
		for _, n := range []int64{1, 20, 1000} {
			expect(t, []row{
				{fmt.Sprint("PollCycle ", needs, n), show(impl.PollCycle(needs, n)), noTimes},
				{fmt.Sprint("TokenRounds ", needs, n), show(impl.TokenRounds(needs, n, n)), noTimes},
			})
		}
		for _, frame := range []int64{1, 2, 20} {
			expect(t, []row{{fmt.Sprint("ReserveSlots ", needs, frame), show(impl.ReserveSlots(needs, frame)), noLists}})
		}
	}
	for _, needs := range [][]int64{{0}, {1}, {1000}, make([]int64, 12), {3, 0, 1000}} {
		for _, n := range notNeeds {
			expect(t, []row{
				{fmt.Sprint("PollCycle, walk ", needs, n), show(impl.PollCycle(needs, n)), noTimes},
				{fmt.Sprint("TokenRounds, walk ", needs, n), show(impl.TokenRounds(needs, 1, n)), noTimes},
				{fmt.Sprint("TokenRounds, hold ", needs, n), show(impl.TokenRounds(needs, n, 1)), noTimes},
				{fmt.Sprint("TokenRounds, both ", needs, n), show(impl.TokenRounds(needs, n, n)), noTimes},
			})
		}
		expect(t, []row{{fmt.Sprint("TokenRounds, hold 0 ", needs), show(impl.TokenRounds(needs, 0, 0)), noTimes}})
		for _, frame := range notWindows {
			expect(t, []row{{fmt.Sprint("ReserveSlots ", needs, frame), show(impl.ReserveSlots(needs, frame)), noLists}})
		}
	}
}

const noLists = `[] false`

// reserveReference lays frames out: the slots of a frame are all first frames of the stations, then all second ones, and so on, as many as there are slots.
func reserveReference(needs []int64, frame int64) string {
	left := slices.Clone(needs)
	var lists [][]int64
	for sumOf(left) > 0 {
		var all []int64
		for place := int64(1); place <= slices.Max(left) && int64(len(all)) < frame; place++ {
			for n, need := range left {
				if need >= place {
					all = append(all, int64(n))
				}
			}
		}
		list := all[:min(int64(len(all)), frame)]
		for _, n := range list {
			left[n]--
		}
		lists = append(lists, list)
	}
	if len(lists) > 300 {
		return noLists
	}
	return show(lists, true)
}

func checkReserve(t *testing.T, needs []int64, frame int64) {
	t.Helper()
	lists, ok := impl.ReserveSlots(needs, frame)
	name := fmt.Sprint("ReserveSlots ", needs, frame)
	if got, want := show(lists, ok), reserveReference(needs, frame); got != want {
		t.Errorf("%s: got %s, want %s", name, got, want)
	}
	if isWithin := sumOf(needs) <= 300*frame; isWithin != ok {
		t.Errorf("%s: got %v", name, ok)
	}
	counts := make([]int64, len(needs))
	for i, list := range lists {
		if i < len(lists)-1 && int64(len(list)) != frame || len(list) == 0 {
			t.Errorf("%s: the list %d is %v", name, i, list)
		}
		for _, n := range list {
			counts[n]++
		}
	}
	if ok && !slices.Equal(counts, needs) {
		t.Errorf("%s: stations get %v", name, counts)
	}
}

func TestPromise10SmallReserves(t *testing.T) {
	for _, needs := range listsUpTo(4, 0, 1, 2, 3, 7)[1:] {
		for _, frame := range []int64{1, 2, 3, 4, 5, 6, 7, 8, 12, 19, 20} {
			checkReserve(t, needs, frame)
		}
	}
}

func TestPromise10DrawnReserves(t *testing.T) {
	source := rand.New(rand.NewSource(203))
	for stations := 1; stations <= 12; stations++ {
		for frame := int64(1); frame <= 20; frame++ {
			for _, most := range []int64{1, 5, 40, frame, min(300*frame/int64(stations), 1000)} {
				checkReserve(t, drawnNeeds(source, stations, most, 1), frame)
			}
		}
	}
}

// needsWithSum returns needs of some stations with a sum.
func needsWithSum(stations int, sum int64) []int64 {
	needs := make([]int64, stations)
	for n := range needs {
		needs[n] = min(sum/int64(stations-n), 1000)
		sum -= needs[n]
	}
	return needs
}

func TestPromise10MostReserves(t *testing.T) {
	for stations := 1; stations <= 12; stations++ {
		for frame := int64(1); frame <= 20; frame++ {
			for _, sum := range []int64{299*frame + 1, 300*frame - 1, 300 * frame, 300*frame + 1, 301 * frame, 301*frame + 1} {
				if needs := needsWithSum(stations, sum); sumOf(needs) == sum {
					checkReserve(t, needs, frame)
				}
			}
		}
	}
	checkReserve(t, repeated[int64](1000, 12), 20)
	checkReserve(t, repeated[int64](1000, 6), 20)
	checkReserve(t, append(repeated[int64](1000, 6), 1), 20)
}

func TestPromise10ReserveExamples(t *testing.T) {
	expect(t, []row{
		{"the three of the example", show(impl.ReserveSlots([]int64{2, 0, 3}, 2)), "[[0 2] [0 2] [2]] true"},
		{"again and again in one frame", show(impl.ReserveSlots([]int64{3, 1}, 5)), "[[0 1 0 0]] true"},
		{"frames begin with the first station", show(impl.ReserveSlots([]int64{2, 2, 2}, 2)), "[[0 1] [0 1] [2 2]] true"},
		{"frames of one slot", show(impl.ReserveSlots([]int64{1, 2, 1}, 1)), "[[0] [1] [1] [2]] true"},
		{"a frame that is just filled", show(impl.ReserveSlots([]int64{2, 0, 3}, 5)), "[[0 2 0 2 2]] true"},
		{"two frames that are just filled", show(impl.ReserveSlots([]int64{3, 3}, 3)), "[[0 1 0] [0 1 1]] true"},
		{"a frame that is longer", show(impl.ReserveSlots([]int64{2, 0, 3}, 20)), "[[0 2 0 2 2]] true"},
		{"a frame of 20 for 20", show(impl.ReserveSlots([]int64{20}, 20)), show([][]int64{make([]int64, 20)}, true)},
		{"a frame of 20 for 21", show(impl.ReserveSlots([]int64{21}, 20)), show([][]int64{make([]int64, 20), {0}}, true)},
		{"no needs", show(impl.ReserveSlots([]int64{0}, 5)), "[] true"},
		{"no needs of 12", show(impl.ReserveSlots(make([]int64, 12), 1)), "[] true"},
		{"300 lists", show(impl.ReserveSlots([]int64{300}, 1)), show(repeated([]int64{0}, 300), true)},
		{"301 lists", show(impl.ReserveSlots([]int64{301}, 1)), noLists},
		{"nobody", show(impl.ReserveSlots(nil, 5)), noLists},
		{"nobody of an empty list", show(impl.ReserveSlots([]int64{}, 5)), noLists},
		{"13 stations", show(impl.ReserveSlots(make([]int64, 13), 5)), noLists},
		{"a need of -1", show(impl.ReserveSlots([]int64{2, -1}, 5)), noLists},
		{"a need of 1001", show(impl.ReserveSlots([]int64{1001}, 5)), noLists},
		{"frames without slots", show(impl.ReserveSlots([]int64{2}, 0)), noLists},
		{"frames of 21 slots", show(impl.ReserveSlots([]int64{2}, 21)), noLists},
		{"frames of 21 slots without needs", show(impl.ReserveSlots([]int64{0}, 21)), noLists},
	})
}

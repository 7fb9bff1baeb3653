package tests

import (
	"fmt"
	"math"
	"testing"

	"loop.example/g01142/impl"
)

// notTicks are numbers that no two moments can be apart that come again and again.
var notTicks = []int64{
	1, 0, -1, -2, -10, -1000, 1001, 1002, 2000, 1 << 32, 1<<32 + 10, -1<<32 + 10,
	math.MinInt64, math.MinInt64 + 10, math.MaxInt64 - 1, math.MaxInt64,
}

// notRuns are numbers that are no lengths of runs.
var notRuns = []int64{0, -1, -5, 101, 102, 400, 1 << 32, 1<<32 + 1, math.MinInt64, math.MinInt64 + 1, math.MaxInt64 - 1, math.MaxInt64}

// isRunTolerated tells by the document's rule whether one run is tolerated; all times are counted in halves of a tick.
func isRunTolerated(send, take, run int64) bool {
	for k := range run {
		sample := (2*k + 1) * take
		if sample <= 2*k*send || sample >= 2*(k+1)*send {
			return false
		}
	}
	return (2*run+1)*take >= 2*run*send
}

// longestByRule returns how many runs from 1 on are tolerated.
func longestByRule(send, take int64) int64 {
	var longest int64
	for longest < 100 && isRunTolerated(send, take, longest+1) {
		longest++
	}
	return longest
}

// longestByDrift returns the same from how long it takes until half of the time between two samples is lost.
func longestByDrift(send, take int64) int64 {
	switch {
	case take < send:
		return min(take/(2*(send-take)), 100)
	case take > send:
		return min((take-1)/(2*(take-send)), 100)
	}
	return 100
}

func TestPromise8Limits(t *testing.T) {
	limits := show(impl.MaxTicks, impl.MaxRunBits, impl.MaxDepth, impl.MaxTime, impl.MaxVotes)
	expect(t, []row{{"the limits of the document", limits, "1000 100 64 1000000 15"}})
}

func TestPromise8SampleTimes(t *testing.T) {
	for _, take := range []int64{2, 3, 4, 5, 9, 10, 11, 500, 998, 999, 1000} {
		times := []int64{}
		for count := range int64(101) {
			for _, send := range []int64{2, 10, 1000} {
				expect(t, []row{{fmt.Sprint("SampleTimes ", send, take, count), show(impl.SampleTimes(send, take, count)), show(times, true)}})
			}
			// The first sample comes half of take behind the edge, and the others take behind the one before them.
			if count == 0 {
				times = append(times, take)
			} else {
				times = append(times, times[count-1]+2*take)
			}
		}
	}
}

func TestPromise8SampleTimesThatFail(t *testing.T) {
	rows := []row{
		{"101 samples", show(impl.SampleTimes(10, 9, 101)), noList},
		{"-1 samples", show(impl.SampleTimes(10, 9, -1)), noList},
	}
	for _, count := range append(outside(100), 1<<32, 1<<32+1, -1<<32, math.MinInt64+1, math.MaxInt64-1) {
		rows = append(rows, row{fmt.Sprint("count ", count), show(impl.SampleTimes(10, 9, count)), noList})
	}
	for _, n := range notTicks {
		rows = append(rows,
			row{fmt.Sprint("send ", n), show(impl.SampleTimes(n, 10, 3)), noList},
			row{fmt.Sprint("take ", n), show(impl.SampleTimes(10, n, 3)), noList},
			row{fmt.Sprint("no samples, send ", n), show(impl.SampleTimes(n, 10, 0)), noList},
			row{fmt.Sprint("no samples, take ", n), show(impl.SampleTimes(10, n, 0)), noList},
			row{fmt.Sprint("both ", n), show(impl.SampleTimes(n, n, 3)), noList})
	}
	expect(t, rows)
}

// checkTolerated compares what is told of a sender and a receiver with the longest tolerated run.
func checkTolerated(t *testing.T, send, take, longest int64) {
	t.Helper()
	got, ok := impl.LongestTolerated(send, take)
	if got != longest || ok != (longest > 0) {
		t.Errorf("LongestTolerated %d %d: got %d %v, want %d", send, take, got, ok, longest)
	}
	for run := int64(0); run <= 101; run++ {
		want := 1 <= run && run <= longest
		if impl.IsTolerated(send, take, run) != want {
			t.Errorf("IsTolerated %d %d %d is not %v", send, take, run, want)
		}
	}
}

func TestPromise8ToleratedByRule(t *testing.T) {
	for send := int64(2); send <= 60; send++ {
		for take := int64(2); take <= 130; take++ {
			want := longestByRule(send, take)
			if other := longestByDrift(send, take); other != want {
				t.Fatalf("%d %d: the references are %d and %d", send, take, want, other)
			}
			checkTolerated(t, send, take, want)
		}
	}
	for _, send := range []int64{99, 100, 150, 199, 200, 201, 202, 333, 400, 500, 666, 667, 750, 997, 998, 999, 1000} {
		for take := max(send-15, 2); take <= min(send+15, 1000); take++ {
			checkTolerated(t, send, take, longestByRule(send, take))
		}
	}
}

// If a run is tolerated, so are all shorter ones: the longest one tells of all.
func TestPromise8ShorterRunsAreTolerated(t *testing.T) {
	for send := int64(2); send <= 30; send++ {
		for take := int64(2); take <= 70; take++ {
			for run := int64(2); run <= 100; run++ {
				if isRunTolerated(send, take, run) && !isRunTolerated(send, take, run-1) {
					t.Fatalf("send %d, take %d: of the runs %d and %d, only the first one is not tolerated", send, take, run-1, run)
				}
			}
		}
	}
}

func TestPromise8LongestToleratedOfAllClocks(t *testing.T) {
	for send := int64(2); send <= 1000; send++ {
		for take := int64(2); take <= 1000; take++ {
			want := longestByDrift(send, take)
			if got, ok := impl.LongestTolerated(send, take); got != want || ok != (want > 0) {
				t.Fatalf("LongestTolerated %d %d: got %d %v, want %d", send, take, got, ok, want)
			}
			if !impl.IsTolerated(send, take, want) && want > 0 || impl.IsTolerated(send, take, want+1) {
				t.Fatalf("IsTolerated %d %d does not end at %d", send, take, want)
			}
		}
	}
}

func TestPromise8ToleratedExamples(t *testing.T) {
	for _, r := range []struct{ send, take, longest int64 }{
		{10, 11, 5}, {10, 9, 4}, {10, 10, 100},
		// Samples just at the end of a bit: they are not taken before it.
		{10, 20, 0}, {10, 19, 1}, {5, 10, 0}, {5, 9, 1}, {3, 4, 1}, {6, 8, 1}, {2, 4, 0}, {2, 3, 1},
		// Samples just at the end of a run: they are not taken before it either, which is right.
		{3, 2, 1}, {15, 10, 1}, {5, 4, 2}, {10, 8, 2}, {7, 6, 3},
		// Samples half a tick or one tick before the end of a run.
		{10, 7, 1}, {11, 7, 0}, {16, 10, 0}, {17, 11, 0},
		// A receiver that is just fast or just slow enough for 100 bits, and for 99.
		{201, 200, 100}, {200, 199, 99}, {200, 201, 100}, {199, 200, 99}, {202, 201, 100}, {1000, 996, 100}, {1000, 995, 99}, {995, 1000, 99}, {996, 1000, 100},
		{2, 2, 100}, {1000, 1000, 100}, {2, 1000, 0}, {1000, 2, 0}, {1000, 666, 0}, {1000, 667, 1}, {500, 1000, 0}, {501, 1000, 1}, {500, 999, 1},
	} {
		checkTolerated(t, r.send, r.take, r.longest)
	}
}

func TestPromise8ToleratedThatFail(t *testing.T) {
	for _, n := range notTicks {
		expect(t, []row{
			{fmt.Sprint("IsTolerated send ", n), show(impl.IsTolerated(n, 10, 1)), "false"},
			{fmt.Sprint("IsTolerated take ", n), show(impl.IsTolerated(10, n, 1)), "false"},
			{fmt.Sprint("IsTolerated both ", n), show(impl.IsTolerated(n, n, 1)), "false"},
			{fmt.Sprint("LongestTolerated send ", n), show(impl.LongestTolerated(n, 10)), noNumber},
			{fmt.Sprint("LongestTolerated take ", n), show(impl.LongestTolerated(10, n)), noNumber},
			{fmt.Sprint("LongestTolerated both ", n), show(impl.LongestTolerated(n, n)), noNumber},
			{fmt.Sprint("TakeRange send ", n), show(impl.TakeRange(n, 1)), "0 0 false"},
			{fmt.Sprint("TakeRange send and run ", n), show(impl.TakeRange(n, n)), "0 0 false"},
		})
	}
	for _, run := range notRuns {
		expect(t, []row{
			{fmt.Sprint("IsTolerated run ", run), show(impl.IsTolerated(10, 10, run)), "false"},
			{fmt.Sprint("TakeRange run ", run), show(impl.TakeRange(10, run)), "0 0 false"},
			{fmt.Sprint("TakeRange of the greatest send, run ", run), show(impl.TakeRange(1000, run)), "0 0 false"},
		})
	}
}

// takesByTrying returns for each run the least and the greatest take for which it and all shorter ones are tolerated.
func takesByTrying(send int64) (least, greatest [101]int64) {
	for take := int64(2); take <= 1000; take++ {
		for run := range longestByDrift(send, take) + 1 {
			if least[run] == 0 {
				least[run] = take
			}
			greatest[run] = take
		}
	}
	return least, greatest
}

func TestPromise8TakeRanges(t *testing.T) {
	for send := int64(2); send <= 1000; send++ {
		least, greatest := takesByTrying(send)
		for run := int64(1); run <= 100; run++ {
			// All runs of some senders, and some of all.
			if send > 25 && send < 990 && run > 4 && run < 99 && (send+run)%23 != 0 {
				continue
			}
			low, high, ok := impl.TakeRange(send, run)
			if low != least[run] || high != greatest[run] || !ok {
				t.Fatalf("TakeRange %d %d: got %d %d %v, want %d %d", send, run, low, high, ok, least[run], greatest[run])
			}
		}
		// A receiver with the clock of the sender is right for each run, so that there always is one.
		if least[100] < 2 || least[100] > send || greatest[100] < send {
			t.Fatalf("send %d: the references are %d and %d", send, least[100], greatest[100])
		}
	}
}

// Between the least and the greatest take, all are tolerated, and none outside.
func TestPromise8TakesBetween(t *testing.T) {
	for _, send := range []int64{2, 3, 10, 99, 500, 501, 999, 1000} {
		for _, run := range []int64{1, 2, 3, 10, 99, 100} {
			low, high, ok := impl.TakeRange(send, run)
			for take := int64(2); take <= 1000; take++ {
				want := longestByDrift(send, take) >= run
				if isInside := ok && low <= take && take <= high; isInside != want || impl.IsTolerated(send, take, run) != want {
					t.Errorf("send %d, take %d, run %d: got %d %d %v", send, take, run, low, high, ok)
				}
			}
		}
	}
}

func TestPromise8TakeExamples(t *testing.T) {
	expect(t, []row{
		{"send 10, run 3", show(impl.TakeRange(10, 3)), "9 11 true"},
		{"send 10, run 1", show(impl.TakeRange(10, 1)), "7 19 true"},
		{"send 10, run 5", show(impl.TakeRange(10, 5)), "10 11 true"},
		{"send 10, run 100", show(impl.TakeRange(10, 100)), "10 10 true"},
		{"a least take just at the end of the run", show(impl.TakeRange(3, 1)), "2 5 true"},
		{"the least send, run 1", show(impl.TakeRange(2, 1)), "2 3 true"},
		{"the least send, run 100", show(impl.TakeRange(2, 100)), "2 2 true"},
		{"the greatest send, run 1", show(impl.TakeRange(1000, 1)), "667 1000 true"},
		{"the greatest send, run 100", show(impl.TakeRange(1000, 100)), "996 1000 true"},
		{"a greatest take of 999", show(impl.TakeRange(500, 1)), "334 999 true"},
		{"a greatest take of 1001, if it could be", show(impl.TakeRange(501, 1)), "334 1000 true"},
		{"send 200, run 100", show(impl.TakeRange(200, 100)), "200 201 true"},
		{"send 201, run 100", show(impl.TakeRange(201, 100)), "200 202 true"},
	})
}

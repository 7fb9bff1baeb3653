package tests

import (
	"fmt"
	"math/rand"
	"strings"
	"testing"

	"loop.example/g01142/impl"
)

// isJitterTolerated tells by the document's rule whether jitter is tolerated for a run, without the shorter ones.
func isJitterTolerated(send, take, run, jitter int64) bool {
	return 2*(run*send-2*jitter) > (2*run-1)*take && 2*(run*send+2*jitter) <= (2*run+1)*take
}

// jitterByRule returns for each run the greatest jitter that is tolerated for it and all shorter ones, or -1.
func jitterByRule(send, take int64) [101]int64 {
	var greatest [101]int64
	// No run of one bit tolerates more: its edges would change places.
	jitter := send
	for run := int64(1); run <= 100; run++ {
		for jitter >= 0 && !isJitterTolerated(send, take, run, jitter) {
			jitter--
		}
		greatest[run] = jitter
	}
	return greatest
}

func jitterText(jitter int64) string {
	if jitter < 0 {
		return noNumber
	}
	return show(jitter, true)
}

// checkJitter compares the greatest jitter with the rule, which is also that of runs that are tolerated.
func checkJitter(t *testing.T, send, take int64, runs ...int64) {
	t.Helper()
	greatest := jitterByRule(send, take)
	for _, run := range runs {
		got, ok := impl.JitterTolerated(send, take, run)
		if show(got, ok) != jitterText(greatest[run]) {
			t.Errorf("JitterTolerated %d %d %d: got %d %v, want %d", send, take, run, got, ok, greatest[run])
		}
		if impl.IsTolerated(send, take, run) != ok || ok != (longestByDrift(send, take) >= run) {
			t.Errorf("send %d, take %d, run %d: no jitter is tolerated: %v", send, take, run, ok)
		}
	}
}

func TestPromise8JitterByRule(t *testing.T) {
	all := tapsFrom(1, 100)
	for send := int64(2); send <= 40; send++ {
		for take := int64(2); take <= 80; take++ {
			checkJitter(t, send, take, all...)
		}
	}
	for _, send := range []int64{99, 100, 199, 200, 201, 500, 998, 999, 1000} {
		for take := max(send-20, 2); take <= min(send+20, 1000); take++ {
			checkJitter(t, send, take, all...)
		}
	}
	source := rand.New(rand.NewSource(111))
	for range 3000 {
		checkJitter(t, 2+source.Int63n(999), 2+source.Int63n(999), 1, 2, 1+source.Int63n(100))
	}
}

// lineAround returns bits with a run of a length at an index, and runs of one length around it.
func lineAround(run, other, before, behind int64) string {
	bits, digit := "", "0"
	for i := range before + 1 + behind {
		length := other
		if i == before {
			length = run
		}
		bits += strings.Repeat(digit, int(length))
		digit = invertedBits(digit)
	}
	return bits
}

// extremes returns jitter of the greatest size for the edges of bits: all early, all late, by turns, and one edge alone.
func extremes(bits string, jitter int64) [][]int64 {
	edges := len(noJitter(bits))
	var lists [][]int64
	for _, rule := range []func(i int) int64{
		func(i int) int64 { return jitter }, func(i int) int64 { return -jitter },
		func(i int) int64 { return jitter * int64(1-2*(i%2)) }, func(i int) int64 { return jitter * int64(2*(i%2)-1) },
		func(i int) int64 { return jitter * int64(1-2*(i/2%2)) }, func(i int) int64 { return jitter * int64(2*(i/2%2)-1) },
	} {
		list := make([]int64, edges)
		for i := 1; i < edges; i++ {
			list[i] = rule(i)
		}
		lists = append(lists, list)
	}
	for i := 1; i < edges; i++ {
		for _, late := range []int64{jitter, -jitter} {
			list := make([]int64, edges)
			list[i] = late
			lists = append(lists, list)
		}
	}
	return lists
}

// checkComesBack receives bits with tolerated jitter.
func checkComesBack(t *testing.T, bits string, send, take int64, jitter []int64) {
	t.Helper()
	if got, ok := impl.ReceiveBits(bits, send, take, jitter); got != bits || !ok {
		t.Errorf("ReceiveBits %s %d %d %v: got %s %v", bits, send, take, jitter, got, ok)
	}
}

// checkExtremes receives bits with the greatest tolerated jitter, and with less.
func checkExtremes(t *testing.T, source *rand.Rand, send, take, run int64) {
	t.Helper()
	jitter, ok := impl.JitterTolerated(send, take, run)
	if !ok {
		t.Fatalf("JitterTolerated %d %d %d fails", send, take, run)
	}
	texts := append(linesWithRuns(source, run), "", "0", "10", "101")
	if run >= 2 {
		texts = append(texts, "00", "0011", "0110", "01100")
	}
	for _, bits := range texts {
		for _, list := range extremes(bits, jitter) {
			// Only some of the many lists for lines with many edges.
			if len(list) < 12 || source.Intn(8) == 0 {
				checkComesBack(t, bits, send, take, list)
			}
		}
		for range 5 {
			checkComesBack(t, bits, send, take, drawnJitter(source, bits, jitter))
		}
	}
}

func TestPromise8ToleratedJitterComesBack(t *testing.T) {
	source := rand.New(rand.NewSource(112))
	for _, send := range []int64{2, 3, 4, 5, 8, 10, 16, 33, 100, 201, 999, 1000} {
		for _, take := range []int64{send - send/4, send - send/10, send - 1, send, send + 1, send + send/10, send + send/4} {
			if take < 2 || take > 1000 {
				continue
			}
			longest, _ := impl.LongestTolerated(send, take)
			for _, run := range []int64{1, 2, 3, 7, longest / 2, longest} {
				if 1 <= run && run <= longest {
					checkExtremes(t, source, send, take, run)
				}
			}
		}
	}
}

// Jitter greater by one makes a receiver fail for one of the runs.
func TestPromise8GreaterJitterFails(t *testing.T) {
	count := 0
	for _, send := range []int64{2, 3, 4, 5, 8, 10, 16, 33, 100, 201, 999, 1000} {
		for take := max(2, send-send/3-1); take <= min(send+send/2+1, 1000); take += 1 + send/40 {
			for _, run := range []int64{1, 2, 3, 5, 10, 40, 98} {
				jitter, ok := impl.JitterTolerated(send, take, run)
				if !ok {
					continue
				}
				count++
				checkGreaterFails(t, send, take, run, jitter+1)
			}
		}
	}
	if count < 300 {
		t.Errorf("only %d are tried", count)
	}
}

// checkGreaterFails finds a run whose edges, both with some jitter, make a receiver fail.
func checkGreaterFails(t *testing.T, send, take, most, jitter int64) {
	t.Helper()
	for run := int64(1); run <= most; run++ {
		bits := lineAround(run, 1, 1, 1)
		for _, late := range []int64{jitter, -jitter} {
			if got, _ := impl.ReceiveBits(bits, send, take, []int64{0, late, -late}); got != bits {
				return
			}
		}
	}
	t.Errorf("send %d, take %d: jitter %d is tolerated for runs of %d", send, take, jitter, most)
}

// At each edge of a line, the edge alone can come as early and as late as its runs tolerate.
func TestPromise8EachEdge(t *testing.T) {
	for _, send := range []int64{2, 5, 10, 37, 1000} {
		for _, take := range []int64{send, send - send/10, min(send+send/10, 1000)} {
			for _, run := range []int64{1, 2, 3} {
				bits := lineAround(run, run, 3, 3)
				for edge := int64(1); edge <= 6; edge++ {
					checkEachJitter(t, bits, send, take, run, edge)
				}
			}
		}
	}
}

// checkEachJitter moves one edge between two runs of a length by all ticks around the limits.
func checkEachJitter(t *testing.T, bits string, send, take, run, edge int64) {
	t.Helper()
	for late := -min(send, 1000); late <= min(send, 1000); late += 1 + send/200 {
		shorter, longer := run*send-max(late, -late), run*send+max(late, -late)
		isRight := 2*shorter > (2*run-1)*take && 2*longer <= (2*run+1)*take
		jitter := noJitter(bits)
		jitter[edge] = late
		got, ok := impl.ReceiveBits(bits, send, take, jitter)
		if isRight != (got == bits) || isRight && !ok {
			t.Errorf("ReceiveBits %s %d %d %v: got %s %v", bits, send, take, jitter, got, ok)
		}
	}
}

func TestPromise8JitterExamples(t *testing.T) {
	expect(t, []row{
		{"send 10, take 10, run 3", show(impl.JitterTolerated(10, 10, 3)), "2 true"},
		{"send 10, take 12, run 9", show(impl.JitterTolerated(10, 12, 9)), noNumber},
		{"no jitter", show(impl.JitterTolerated(10, 11, 5)), "0 true"},
		{"one bit more", show(impl.JitterTolerated(10, 11, 6)), noNumber},
		{"a run that just ends", show(impl.JitterTolerated(3, 2, 1)), "0 true"},
		{"a sample half a tick before the end of the run", show(impl.JitterTolerated(11, 7, 1)), noNumber},
		{"a sample 3 half ticks before the end of the run", show(impl.JitterTolerated(6, 3, 1)), noNumber},
		{"a sample just at the end of its bit", show(impl.JitterTolerated(2, 4, 1)), noNumber},
		{"a sample half a tick behind the end of its bit", show(impl.JitterTolerated(4, 9, 1)), noNumber},
		{"3 half ticks to become shorter", show(impl.JitterTolerated(4, 4, 1)), "0 true"},
		{"4 half ticks to become shorter", show(impl.JitterTolerated(5, 5, 1)), "1 true"},
		{"3 half ticks to become longer", show(impl.JitterTolerated(6, 5, 1)), "0 true"},
		{"4 half ticks to become longer", show(impl.JitterTolerated(7, 6, 1)), "1 true"},
		{"as many in each run", show(impl.JitterTolerated(5, 5, 100)), "1 true"},
		{"4 half ticks in the first run", show(impl.JitterTolerated(6, 7, 1)), "1 true"},
		{"2 half ticks in the second run", show(impl.JitterTolerated(6, 7, 2)), "0 true"},
		{"2 half ticks to become longer in the second run", show(impl.JitterTolerated(7, 6, 2)), "0 true"},
		{"the least ticks", show(impl.JitterTolerated(2, 2, 100)), "0 true"},
		{"the greatest ticks", show(impl.JitterTolerated(1000, 1000, 100)), "249 true"},
		{"the greatest send, a slow receiver", show(impl.JitterTolerated(1000, 996, 100)), "49 true"},
		{"a fast receiver", show(impl.JitterTolerated(1000, 667, 1)), "0 true"},
		{"the greatest run", show(impl.JitterTolerated(201, 200, 100)), "0 true"},
		{"the greatest run, too slow", show(impl.JitterTolerated(200, 199, 100)), noNumber},
		{"the greatest run less one", show(impl.JitterTolerated(200, 199, 99)), "0 true"},
		{"all runs up to 5", show(impl.JitterTolerated(100, 110, 5)), "2 true"},
	})
}

func TestPromise8JitterThatFails(t *testing.T) {
	for _, n := range notTicks {
		expect(t, []row{
			{fmt.Sprint("send ", n), show(impl.JitterTolerated(n, 10, 1)), noNumber},
			{fmt.Sprint("take ", n), show(impl.JitterTolerated(10, n, 1)), noNumber},
			{fmt.Sprint("both ", n), show(impl.JitterTolerated(n, n, 1)), noNumber},
		})
	}
	for _, run := range notRuns {
		expect(t, []row{
			{fmt.Sprint("run ", run), show(impl.JitterTolerated(10, 10, run)), noNumber},
			{fmt.Sprint("the greatest ticks, run ", run), show(impl.JitterTolerated(1000, 1000, run)), noNumber},
		})
	}
}

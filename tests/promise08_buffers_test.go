package tests

import (
	"fmt"
	"math"
	"math/rand"
	"testing"

	"loop.example/g01142/impl"
)

// mostTime is the greatest time up to which a buffer is followed.
const mostTime = 1000000

// gains has the first time at which a buffer has gained or lost so many symbols, or 0 if it never has.
type gains struct {
	gained [66]int64
	lost   [66]int64
}

// gainsOf goes through all ticks of a buffer; what is done at one tick is done together.
func gainsOf(write, read int64) *gains {
	var g gains
	gain, untilWrite, untilRead := 0, write, read
	for time := int64(1); time <= mostTime; time++ {
		untilWrite--
		untilRead--
		if untilWrite == 0 {
			gain++
			untilWrite = write
		}
		if untilRead == 0 {
			gain--
			untilRead = read
		}
		if 0 < gain && gain <= 65 && g.gained[gain] == 0 {
			g.gained[gain] = time
		}
		if -65 <= gain && gain < 0 && g.lost[-gain] == 0 {
			g.lost[-gain] = time
		}
	}
	return &g
}

// timeOf returns when a buffer is too full or too empty, or 0 if it never is.
func (g *gains) timeOf(depth, fill int64) int64 {
	full, empty := g.gained[depth-fill+1], g.lost[fill+1]
	if full == 0 || empty == 0 {
		return full + empty
	}
	return min(full, empty)
}

// spanText returns the fill from which it takes longest, and the time.
func (g *gains) spanText(depth int64) string {
	best, longest := int64(0), int64(0)
	for fill := range depth + 1 {
		time := g.timeOf(depth, fill)
		if time == 0 {
			return "0 0 false"
		}
		if time > longest {
			best, longest = fill, time
		}
	}
	return show(best, longest, true)
}

func timeText(time int64) string {
	if time == 0 {
		return noNumber
	}
	return show(time, true)
}

// fillReference returns a fill after all writes and reads have been done one after another.
func fillReference(write, read, fill, time int64) int64 {
	for at := write; at <= time; at += write {
		fill++
	}
	for at := read; at <= time; at += read {
		fill--
	}
	return fill
}

func TestPromise8Fills(t *testing.T) {
	for write := int64(2); write <= 7; write++ {
		for read := int64(2); read <= 7; read++ {
			for time := range int64(60) {
				for _, fill := range []int64{0, 1, 63, 64} {
					expect(t, []row{{fmt.Sprint("FillAt ", write, read, fill, time), show(impl.FillAt(write, read, fill, time)), show(fillReference(write, read, fill, time), true)}})
				}
			}
		}
	}
	source := rand.New(rand.NewSource(121))
	for range 500 {
		write, read, fill := 2+source.Int63n(999), 2+source.Int63n(999), source.Int63n(65)
		// At the tick of a write or a read, and just before it.
		times := []int64{0, 1, mostTime, mostTime - 1, source.Int63n(mostTime + 1), write, write - 1, read, read - 1, write * read, write*read - 1, write * 1000, write*1000 - 1}
		for _, time := range times {
			expect(t, []row{{fmt.Sprint("FillAt ", write, read, fill, time), show(impl.FillAt(write, read, fill, time)), show(fillReference(write, read, fill, time), true)}})
		}
	}
}

func TestPromise8FillExamples(t *testing.T) {
	expect(t, []row{
		{"the document's buffer", show(impl.FillAt(10, 11, 2, 230)), "5 true"},
		{"just before", show(impl.FillAt(10, 11, 2, 229)), "4 true"},
		{"the time 0", show(impl.FillAt(2, 3, 7, 0)), "7 true"},
		{"just before a write", show(impl.FillAt(10, 20, 0, 9)), "0 true"},
		{"at a write", show(impl.FillAt(10, 20, 0, 10)), "1 true"},
		{"just before a read", show(impl.FillAt(20, 10, 0, 9)), "0 true"},
		{"at a read", show(impl.FillAt(20, 10, 0, 10)), "-1 true"},
		{"a write and a read at one tick", show(impl.FillAt(10, 20, 0, 20)), "1 true"},
		{"a buffer without change", show(impl.FillAt(10, 10, 64, 1000000)), "64 true"},
		{"the greatest fill", show(impl.FillAt(2, 1000, 64, 1000000)), "499064 true"},
		{"the least fill", show(impl.FillAt(1000, 2, 0, 1000000)), "-499000 true"},
	})
}

func TestPromise8FillsThatFail(t *testing.T) {
	for _, n := range notTicks {
		expect(t, []row{
			{fmt.Sprint("write ", n), show(impl.FillAt(n, 10, 2, 20)), noNumber},
			{fmt.Sprint("read ", n), show(impl.FillAt(10, n, 2, 20)), noNumber},
			{fmt.Sprint("both ", n), show(impl.FillAt(n, n, 2, 0)), noNumber},
		})
	}
	for _, fill := range append(outside(64), 1<<32, 1<<32+1, -64) {
		expect(t, []row{{fmt.Sprint("fill ", fill), show(impl.FillAt(10, 11, fill, 20)), noNumber}})
	}
	for _, time := range append(outside(1000000), -1000000, 1<<32, 1<<32+20, math.MinInt64+1) {
		expect(t, []row{{fmt.Sprint("time ", time), show(impl.FillAt(10, 11, 2, time)), noNumber}})
	}
}

// checkBuffer compares a time, and the fills at this time and before it.
func checkBuffer(t *testing.T, g *gains, write, read, depth, fill int64) {
	t.Helper()
	want := g.timeOf(depth, fill)
	got, ok := impl.BufferTime(write, read, depth, fill)
	if show(got, ok) != timeText(want) {
		t.Errorf("BufferTime %d %d %d %d: got %d %v, want %d", write, read, depth, fill, got, ok, want)
	}
	if !ok {
		got = mostTime + 1
	}
	for _, time := range []int64{got, got - 1, got / 2, got - write, got - read, got - write - 1} {
		if time < 0 || time > mostTime {
			continue
		}
		at, isRight := impl.FillAt(write, read, fill, time)
		if isInside := 0 <= at && at <= depth; isInside != (time < got) || !isRight {
			t.Errorf("FillAt %d %d %d %d: got %d %v, and the depth %d lasts until %d", write, read, fill, time, at, isRight, depth, got)
		}
	}
}

// checkBuffers compares all times for some depths.
func checkBuffers(t *testing.T, write, read int64, depths ...int64) {
	t.Helper()
	g := gainsOf(write, read)
	for _, depth := range depths {
		expect(t, []row{{fmt.Sprint("BufferSpan ", write, read, depth), show(impl.BufferSpan(write, read, depth)), g.spanText(depth)}})
		for _, fill := range []int64{0, 1, 2, depth / 2, depth - 2, depth - 1, depth} {
			if 0 <= fill && fill <= depth {
				checkBuffer(t, g, write, read, depth, fill)
			}
		}
	}
}

func TestPromise8Buffers(t *testing.T) {
	for write := int64(2); write <= 9; write++ {
		for read := int64(2); read <= 9; read++ {
			if write != read {
				checkBuffers(t, write, read, tapsFrom(1, 64)...)
			}
		}
	}
	source := rand.New(rand.NewSource(122))
	for range 40 {
		write := 2 + source.Int63n(999)
		checkBuffers(t, write, 2+source.Int63n(999), 1, 2, 3, 20, 63, 64)
		checkBuffers(t, write, min(max(write+source.Int63n(21)-10, 2), 1000), 1, 2, 3, 20, 64)
	}
	for _, pair := range [][2]int64{{999, 1000}, {1000, 999}, {998, 1000}, {10, 11}, {11, 10}, {124, 125}, {125, 124}, {500, 501}, {2, 1000}, {1000, 2}, {30, 60}, {60, 30}} {
		checkBuffers(t, pair[0], pair[1], 1, 2, 3, 8, 16, 32, 63, 64)
	}
}

// Writes and reads at the same ticks never change a fill.
func TestPromise8BuffersWithoutChange(t *testing.T) {
	for _, period := range []int64{2, 3, 10, 500, 999, 1000} {
		for _, depth := range []int64{1, 2, 64} {
			for _, fill := range []int64{0, 1, depth} {
				expect(t, []row{{fmt.Sprint("BufferTime ", period, depth, fill), show(impl.BufferTime(period, period, depth, fill)), noNumber}})
			}
			expect(t, []row{{fmt.Sprint("BufferSpan ", period, depth), show(impl.BufferSpan(period, period, depth)), "0 0 false"}})
		}
	}
}

// A buffer that is written more often lasts longer with each symbol less at first, and one that is read more often with each one more.
func TestPromise8FillsLastDifferently(t *testing.T) {
	for _, pair := range [][2]int64{{2, 3}, {3, 2}, {2, 4}, {4, 2}, {10, 11}, {11, 10}, {6, 9}, {9, 6}, {100, 103}, {7, 1000}} {
		last := int64(0)
		for fill := range int64(65) {
			if pair[0] < pair[1] {
				fill = 64 - fill
			}
			time, ok := impl.BufferTime(pair[0], pair[1], 64, fill)
			if !ok || time <= last {
				t.Errorf("BufferTime %v %d: got %d %v behind %d", pair, fill, time, ok, last)
			}
			last = time
		}
	}
}

func TestPromise8BufferExamples(t *testing.T) {
	expect(t, []row{
		{"the document's buffer", show(impl.BufferTime(10, 11, 4, 2)), "230 true"},
		{"a full one", show(impl.BufferTime(10, 11, 4, 4)), "10 true"},
		{"an empty one", show(impl.BufferTime(10, 11, 4, 0)), "450 true"},
		{"an empty one that is read first", show(impl.BufferTime(11, 10, 4, 0)), "10 true"},
		{"a full one that is read first", show(impl.BufferTime(11, 10, 4, 4)), "450 true"},
		{"the least depth, empty", show(impl.BufferTime(2, 3, 1, 0)), "8 true"},
		{"the least depth, full", show(impl.BufferTime(2, 3, 1, 1)), "2 true"},
		{"the greatest depth, empty", show(impl.BufferTime(2, 1000, 64, 0)), "130 true"},
		{"the greatest depth, full", show(impl.BufferTime(1000, 2, 64, 64)), "130 true"},
		{"a write and a read at one tick of a full one", show(impl.BufferTime(4, 2, 1, 1)), "6 true"},
		{"a write and a read at one tick of an empty one", show(impl.BufferTime(2, 4, 1, 0)), "6 true"},
		{"becomes too full at the greatest time", show(impl.BufferTime(800, 815, 24, 1)), "1000000 true"},
		{"becomes too full behind it", show(impl.BufferTime(800, 815, 24, 0)), noNumber},
		{"becomes too empty at the greatest time", show(impl.BufferTime(815, 800, 24, 23)), "1000000 true"},
		{"becomes too empty behind it", show(impl.BufferTime(815, 800, 24, 24)), noNumber},
		{"becomes too full just before the greatest time", show(impl.BufferTime(999, 1000, 1, 0)), "999999 true"},
		{"the longest fill of the document's buffer", show(impl.BufferSpan(10, 11, 4)), "0 450 true"},
		{"that of a buffer which is read faster", show(impl.BufferSpan(11, 10, 4)), "4 450 true"},
		{"the longest fill lasts until the greatest time", show(impl.BufferSpan(800, 815, 23)), "0 1000000 true"},
		{"one fill lasts longer", show(impl.BufferSpan(800, 815, 24)), "0 0 false"},
		{"the last fill lasts until the greatest time", show(impl.BufferSpan(815, 800, 23)), "23 1000000 true"},
		{"the last fill lasts longer", show(impl.BufferSpan(815, 800, 24)), "0 0 false"},
		{"the least depth", show(impl.BufferSpan(2, 3, 1)), "0 8 true"},
		{"the least depth, just before the greatest time", show(impl.BufferSpan(999, 1000, 1)), "0 999999 true"},
		{"the depth 2, behind the greatest time", show(impl.BufferSpan(999, 1000, 2)), "0 0 false"},
		{"the greatest depth", show(impl.BufferSpan(2, 1000, 64)), "0 130 true"},
		{"the greatest depth, read faster", show(impl.BufferSpan(1000, 2, 64)), "64 130 true"},
	})
}

func TestPromise8BuffersThatFail(t *testing.T) {
	for _, n := range notTicks {
		expect(t, []row{
			{fmt.Sprint("BufferTime write ", n), show(impl.BufferTime(n, 10, 4, 2)), noNumber},
			{fmt.Sprint("BufferTime read ", n), show(impl.BufferTime(10, n, 4, 2)), noNumber},
			{fmt.Sprint("BufferTime both ", n), show(impl.BufferTime(n, n, 4, 2)), noNumber},
			{fmt.Sprint("BufferSpan write ", n), show(impl.BufferSpan(n, 10, 4)), "0 0 false"},
			{fmt.Sprint("BufferSpan read ", n), show(impl.BufferSpan(10, n, 4)), "0 0 false"},
			{fmt.Sprint("BufferSpan both ", n), show(impl.BufferSpan(n, n, 4)), "0 0 false"},
		})
	}
	for _, depth := range []int64{0, -1, -4, 65, 66, 1 << 32, 1<<32 + 4, math.MinInt64, math.MinInt64 + 4, math.MaxInt64 - 1, math.MaxInt64} {
		expect(t, []row{
			{fmt.Sprint("BufferTime depth ", depth), show(impl.BufferTime(10, 11, depth, 0)), noNumber},
			{fmt.Sprint("BufferTime depth, read faster ", depth), show(impl.BufferTime(11, 10, depth, 0)), noNumber},
			{fmt.Sprint("BufferTime depth and fill ", depth), show(impl.BufferTime(10, 11, depth, depth)), noNumber},
			{fmt.Sprint("BufferSpan depth ", depth), show(impl.BufferSpan(10, 11, depth)), "0 0 false"},
			{fmt.Sprint("BufferSpan depth, read faster ", depth), show(impl.BufferSpan(11, 10, depth)), "0 0 false"},
		})
	}
	for _, fill := range append(outside(4), 64, 65, 1<<32, -1<<32, math.MinInt64+1, math.MaxInt64-1) {
		expect(t, []row{
			{fmt.Sprint("fill ", fill), show(impl.BufferTime(10, 11, 4, fill)), noNumber},
			{fmt.Sprint("fill, read faster ", fill), show(impl.BufferTime(11, 10, 4, fill)), noNumber},
		})
	}
	for _, fill := range outside(64) {
		expect(t, []row{{fmt.Sprint("fill of the greatest depth ", fill), show(impl.BufferTime(11, 10, 64, fill)), noNumber}})
	}
}

package tests

import (
	"fmt"
	"math"
	"math/rand"
	"strings"
	"testing"

	"loop.example/g01142/impl"
)

// edgesReference returns the indices of bits that differ from the one before them, where another one is before the first one.
func edgesReference(bits string) []int64 {
	var edges []int64
	for i := range bits {
		if i == 0 || bits[i-1:i] != bits[i:i+1] {
			edges = append(edges, int64(i))
		}
	}
	return edges
}

// noJitter returns for each edge of bits that it comes in time.
func noJitter(bits string) []int64 { return make([]int64, len(edgesReference(bits))) }

// drawnJitter returns for each edge of bits by how many ticks it comes later, at most so many either way.
func drawnJitter(source *rand.Rand, bits string, most int64) []int64 {
	jitter := noJitter(bits)
	for i := 1; i < len(jitter); i++ {
		jitter[i] = source.Int63n(2*most+1) - most
	}
	return jitter
}

// receiveText returns what is received as a text.
func receiveText(bits string, send, take int64, jitter ...int64) string {
	return show(impl.ReceiveBits(bits, send, take, jitter))
}

// receiveReference goes through all moments of a line, in halves of a tick, and takes a sample at some of them.
func receiveReference(bits string, send, take int64, jitter []int64) string {
	levels := map[int64]string{}
	last, end := int64(-1), 2*send*int64(len(bits))
	for i, at := range edgesReference(bits) {
		time := 2*at*send + 2*jitter[i]
		if time <= last || time >= end {
			return noText
		}
		levels[time], last = bits[at:at+1], time
	}
	var taken strings.Builder
	level, sample := "", int64(0)
	for time := range end {
		if next, isEdge := levels[time]; isEdge {
			level, sample = next, time+take
		}
		if time == sample {
			taken.WriteString(level)
			sample += 2 * take
		}
	}
	return show(taken.String(), true)
}

func checkReceiving(t *testing.T, bits string, send, take int64, jitter []int64) string {
	t.Helper()
	want := receiveReference(bits, send, take, jitter)
	if got := receiveText(bits, send, take, jitter...); got != want {
		t.Errorf("ReceiveBits %s %d %d %v: got %s, want %s", bits, send, take, jitter, got, want)
	}
	return want
}

func TestPromise8Edges(t *testing.T) {
	source := rand.New(rand.NewSource(101))
	texts := textsUpTo(10)
	for _, length := range []int64{11, 99, 100, 101, 399, 400} {
		texts = append(texts, longTexts(source, length)...)
		texts = append(texts, strings.Repeat("01", 200)[:length], strings.Repeat("10", 200)[:length])
	}
	for _, bits := range texts {
		expect(t, []row{{"EdgesOf " + bits, show(impl.EdgesOf(bits)), show(edgesReference(bits), true)}})
	}
}

func TestPromise8EdgeExamples(t *testing.T) {
	all, _ := impl.EdgesOf(strings.Repeat("01", 200))
	rows := []row{
		{"no bits", show(impl.EdgesOf("")), "[] true"},
		{"one bit 0", show(impl.EdgesOf("0")), "[0] true"},
		{"one bit 1", show(impl.EdgesOf("1")), "[0] true"},
		{"equal bits", show(impl.EdgesOf("1111")), "[0] true"},
		{"two runs", show(impl.EdgesOf("0011")), "[0 2] true"},
		{"no equal neighbours", show(impl.EdgesOf("0101")), "[0 1 2 3] true"},
		{"a last bit", show(impl.EdgesOf("00110")), "[0 2 4] true"},
		{"400 equal bits", show(impl.EdgesOf(strings.Repeat("0", 400))), "[0] true"},
		{"400 edges", show(len(all), all[399]), "400 399"},
		{"401 bits", show(impl.EdgesOf(strings.Repeat("0", 401))), noList},
	}
	for _, text := range notBits {
		rows = append(rows, row{"EdgesOf " + text, show(impl.EdgesOf(text)), noList})
	}
	expect(t, rows)
}

// jitterLists returns all lists for some edges with numbers of at most so many ticks either way.
func jitterLists(edges int, most int64) [][]int64 {
	if edges < 1 {
		return [][]int64{{}}
	}
	lists := [][]int64{{0}}
	for len(lists[0]) < edges {
		var longer [][]int64
		for _, list := range lists {
			for late := -most; late <= most; late++ {
				longer = append(longer, append(list[:len(list):len(list)], late))
			}
		}
		lists = longer
	}
	return lists
}

func TestPromise8AllShortLines(t *testing.T) {
	counts := map[bool]int{}
	for _, bits := range textsUpTo(4) {
		for _, jitter := range jitterLists(len(edgesReference(bits)), 3) {
			for send := int64(2); send <= 4; send++ {
				for take := int64(2); take <= 6; take++ {
					counts[checkReceiving(t, bits, send, take, jitter) == noText]++
				}
			}
		}
	}
	if counts[true] < 8000 || counts[false] < 8000 {
		t.Errorf("%v", counts)
	}
}

func TestPromise8ShortLinesWithoutJitter(t *testing.T) {
	for _, bits := range textsUpTo(7) {
		for send := int64(2); send <= 7; send++ {
			for take := int64(2); take <= 16; take++ {
				checkReceiving(t, bits, send, take, noJitter(bits))
			}
		}
	}
}

func TestPromise8LongLines(t *testing.T) {
	source := rand.New(rand.NewSource(102))
	longest := 0
	for _, length := range []int64{1, 2, 5, 17, 50, 99, 100} {
		for _, bits := range longTexts(source, length) {
			for _, clock := range [][2]int64{
				{2, 2}, {2, 1000}, {3, 5}, {10, 9}, {10, 11}, {100, 99}, {100, 2}, {101, 997}, {999, 1000}, {1000, 999}, {1000, 2}, {1000, 3}, {1000, 1000},
				{2 + source.Int63n(999), 2 + source.Int63n(999)}, {2 + source.Int63n(99), 2 + source.Int63n(99)},
			} {
				send, take := clock[0], clock[1]
				for _, most := range []int64{0, send / 4, send / 2, min(send, 1000)} {
					longest = max(longest, len(checkReceiving(t, bits, send, take, drawnJitter(source, bits, most))))
				}
			}
		}
	}
	if longest < 50000 {
		t.Errorf("at most %d samples are taken", longest)
	}
}

// Runs that are tolerated come back, and one that is longer by a bit does not.
func TestPromise8ToleratedRunsComeBack(t *testing.T) {
	source := rand.New(rand.NewSource(103))
	for _, send := range []int64{2, 3, 5, 10, 37, 99, 200, 201, 500, 1000} {
		for take := max(2, send/2); take <= min(2*send, 1000); take += 1 + send/20 {
			longest, ok := impl.LongestTolerated(send, take)
			if ok {
				for _, bits := range linesWithRuns(source, longest) {
					expect(t, []row{{fmt.Sprint("ReceiveBits ", bits, send, take), receiveText(bits, send, take, noJitter(bits)...), show(bits, true)}})
				}
			}
			if longest == 100 {
				continue
			}
			for _, digit := range []string{"0", "1"} {
				bits := strings.Repeat(digit, int(longest)+1)
				if got, received := impl.ReceiveBits(bits, send, take, []int64{0}); got == bits || !received {
					t.Errorf("send %d, take %d: a run of %d becomes %s %v", send, take, longest+1, got, received)
				}
			}
		}
	}
}

// linesWithRuns returns bits of several lengths whose runs have at most a length.
func linesWithRuns(source *rand.Rand, most int64) []string {
	return []string{
		equalRuns(most, 100), equalRuns(most, 99), equalRuns((most+1)/2, 100),
		drawnRuns(source, most, 100), drawnRuns(source, most, 100), drawnRuns(source, most, 60),
	}
}

// equalRuns returns bits whose runs all have a length, but the last one, which is cut off.
func equalRuns(run, length int64) string {
	pair := strings.Repeat("1", int(run)) + strings.Repeat("0", int(run))
	return strings.Repeat(pair, int(length))[:length]
}

// drawnRuns returns bits whose runs have at most a length, and often just this one.
func drawnRuns(source *rand.Rand, most, length int64) string {
	bits, digit := "", "0"
	for int64(len(bits)) < length {
		run := most
		if source.Intn(2) == 0 {
			run = 1 + source.Int63n(most)
		}
		bits += strings.Repeat(digit, int(run))
		digit = invertedBits(digit)
	}
	return bits[:length]
}

func TestPromise8ReceiverExamples(t *testing.T) {
	equal := strings.Repeat("1", 100)
	turns := strings.Repeat("01", 50)
	rows := []row{
		{"a tolerated run", receiveText("00110", 10, 11, 0, 0, 0), `"00110" true`},
		{"a receiver that is too slow", receiveText("0000000", 10, 12, 0), `"000000" true`},
		{"a receiver that is too fast", receiveText("0000000", 10, 9, 0), `"00000000" true`},
		{"no bits", receiveText("", 10, 10), `"" true`},
		{"no bits, with jitter", receiveText("", 10, 10, 0), noText},
		{"one bit 0", receiveText("0", 10, 10, 0), `"0" true`},
		{"one bit 1", receiveText("1", 10, 10, 0), `"1" true`},
		{"one bit, without jitter", receiveText("1", 10, 10), noText},
		{"equal bits", receiveText("1111", 10, 10, 0), `"1111" true`},
		{"no equal neighbours", receiveText("0101", 10, 10, 0, 0, 0, 0), `"0101" true`},
		{"100 bits", receiveText(equal, 10, 10, 0), show(equal, true)},
		{"101 bits", receiveText(equal+"1", 10, 10, 0), noText},
		{"100 edges", receiveText(turns, 10, 10, make([]int64, 100)...), show(turns, true)},
		{"101 edges", receiveText(turns+"0", 10, 10, make([]int64, 101)...), noText},
		{"100 bits with the greatest ticks", receiveText(equal, 1000, 1000, 0), show(equal, true)},
		{"100 bits with the least ticks", receiveText(equal, 2, 2, 0), show(equal, true)},
		{"the most samples", receiveText(equal, 1000, 2, 0), show(strings.Repeat("1", 50000), true)},
		{"400 samples", receiveText("1", 800, 2, 0), show(strings.Repeat("1", 400), true)},
		{"401 samples", receiveText("1", 802, 2, 0), show(strings.Repeat("1", 401), true)},
	}
	for _, text := range notBits {
		rows = append(rows,
			row{"text " + text, receiveText(text, 10, 10, 0), noText},
			row{"text without jitter " + text, receiveText(text, 10, 10), noText},
			row{"text with jitter for each byte " + text, receiveText(text, 10, 10, make([]int64, len(text))...), noText})
	}
	expect(t, rows)
}

func TestPromise8SamplesAtEdges(t *testing.T) {
	expect(t, []row{
		{"just at each edge", receiveText("01", 10, 20, 0, 0), `"" true`},
		{"half a tick before each edge", receiveText("01", 10, 19, 0, 0), `"01" true`},
		{"half a tick behind each edge", receiveText("01", 10, 21, 0, 0), `"" true`},
		{"one tick before each edge", receiveText("01", 10, 18, 0, 0), `"01" true`},
		{"one tick behind each edge", receiveText("01", 10, 22, 0, 0), `"" true`},
		{"the second ones just at the edge", receiveText("0011", 9, 12, 0, 0), `"01" true`},
		{"the second ones just before the edge", receiveText("0011", 9, 11, 0, 0), `"0011" true`},
		{"just at the end of a bit within a run", receiveText("00", 10, 20, 0), `"0" true`},
		{"just at the end of the run", receiveText("000", 10, 12, 0), `"00" true`},
		{"half a tick before the end of the run", receiveText("0000", 11, 29, 0), `"00" true`},
		{"half a tick before an edge that comes early", receiveText("01", 10, 3, 0, -8), `"0111111" true`},
		{"just at an edge that comes early", receiveText("01", 10, 10, 0, -5), `"1" true`},
		{"one tick before an edge that comes early", receiveText("01", 10, 10, 0, -4), `"01" true`},
		{"just at an edge that comes late", receiveText("01", 10, 10, 0, 5), `"0" true`},
		{"one tick before an edge that comes late", receiveText("01", 10, 10, 0, 6), `"00" true`},
		{"just at the end", receiveText("1", 4, 8, 0), `"" true`},
		{"half a tick before the end", receiveText("1", 4, 7, 0), `"1" true`},
		{"half a tick behind the end", receiveText("1", 4, 9, 0), `"" true`},
		{"one tick before the end", receiveText("1", 4, 6, 0), `"1" true`},
		{"the second one just at the end", receiveText("1", 3, 2, 0), `"1" true`},
		{"the second one half a tick before the end", receiveText("1", 8, 5, 0), `"11" true`},
	})
}

func TestPromise8JitteredEdges(t *testing.T) {
	expect(t, []row{
		{"edges that meet", receiveText("01", 10, 10, 0, -10), noText},
		{"edges one tick apart", receiveText("01", 10, 10, 0, -9), `"11" true`},
		{"edges one tick apart, a fast receiver", receiveText("01", 10, 2, 0, -9), `"111111111" true`},
		{"edges two ticks apart", receiveText("01", 10, 2, 0, -8), `"0111111111" true`},
		{"edges one tick apart, a sample half a tick behind both", receiveText("01", 10, 3, 0, -9), `"111111" true`},
		{"an edge before the first one", receiveText("01", 10, 10, 0, -11), noText},
		{"an edge that meets the end", receiveText("01", 10, 10, 0, 10), noText},
		{"an edge one tick before the end", receiveText("01", 10, 10, 0, 9), `"00" true`},
		{"an edge behind the end", receiveText("01", 10, 10, 0, 11), noText},
		{"later edges that meet", receiveText("010", 10, 10, 0, 5, -5), noText},
		{"later edges one tick apart", receiveText("010", 10, 10, 0, 5, -4), `"00" true`},
		{"later edges that change places", receiveText("010", 10, 10, 0, 6, -5), noText},
		{"edges that change places and come back", receiveText("01010", 10, 10, 0, 0, 11, 0, 0), noText},
		{"edges that change places far from the end", receiveText("0100000000", 10, 10, 0, 20, 5), noText},
		{"an interval that is too short for a sample", receiveText("010", 10, 10, 0, 3, -3), `"00" true`},
		{"an interval with more than 400 samples", receiveText("01", 1000, 4, 0, 605), show(strings.Repeat("0", 401)+strings.Repeat("1", 99), true)},
		{"both kinds of intervals", receiveText("0101", 1000, 4, 0, 999, 0, 0), show(strings.Repeat("0", 500+250)+strings.Repeat("1", 250), true)},
		{"the greatest jitter", receiveText("0111", 1000, 1000, 0, 1000), `"0011" true`},
		{"jitter greater by one", receiveText("0111", 1000, 1000, 0, 1001), noText},
		{"the least jitter", receiveText("00011", 1000, 1000, 0, -1000), `"00111" true`},
		{"jitter less by one", receiveText("00011", 1000, 1000, 0, -1001), noText},
	})
}

func TestPromise8ReceiversThatFail(t *testing.T) {
	rows := []row{
		{"one number of jitter too many", receiveText("0011", 10, 10, 0, 0, 0), noText},
		{"one number of jitter too few", receiveText("0011", 10, 10, 0), noText},
		{"no jitter", receiveText("0011", 10, 10), noText},
		{"jitter for each bit", receiveText("0011", 10, 10, 0, 0, 0, 0), noText},
		{"one number too many for equal bits", receiveText("1111", 10, 10, 0, 0), noText},
		{"a late first edge", receiveText("0011", 10, 10, 1, 0), noText},
		{"an early first edge", receiveText("0011", 10, 10, -1, 0), noText},
		{"a late first edge of one bit", receiveText("1", 10, 10, 1), noText},
		{"an early first edge of one bit", receiveText("1", 10, 10, -1), noText},
		{"the greatest late first edge", receiveText("1", 1000, 10, 1000), noText},
	}
	for _, n := range notTicks {
		rows = append(rows,
			row{fmt.Sprint("send ", n), receiveText("0011", n, 10, 0, 0), noText},
			row{fmt.Sprint("take ", n), receiveText("0011", 10, n, 0, 0), noText},
			row{fmt.Sprint("both ", n), receiveText("0011", n, n, 0, 0), noText},
			row{fmt.Sprint("no bits, send ", n), receiveText("", n, 10), noText},
			row{fmt.Sprint("no bits, take ", n), receiveText("", 10, n), noText})
	}
	for _, late := range []int64{-1001, 1001, -1002, 1002, 1 << 32, -1 << 32, 1 << 62, -1 << 62, math.MinInt64, math.MinInt64 + 1, math.MaxInt64 - 1, math.MaxInt64} {
		bits := "0000011111000000"
		rows = append(rows,
			row{fmt.Sprint("the first edge ", late), receiveText(bits, 1000, 1000, late, 0, 0), noText},
			row{fmt.Sprint("a middle edge ", late), receiveText(bits, 1000, 1000, 0, late, 0), noText},
			row{fmt.Sprint("the last edge ", late), receiveText(bits, 1000, 1000, 0, 0, late), noText},
			row{fmt.Sprint("all edges ", late), receiveText(bits, 1000, 1000, late, late, late), noText})
	}
	expect(t, rows)
}

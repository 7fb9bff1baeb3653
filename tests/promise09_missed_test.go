package tests

import (
	"fmt"
	"math"
	"math/rand"
	"strconv"
	"strings"
	"testing"

	"loop.example/g01142/impl"
)

// missedTable has for each length and each number of changed bits how many ways are missed.
type missedTable [33][5]int64

// missedReference counts the ways to reach each remainder with so many of the first
// powers of x: a further power is added to what has been reached without it.
func missedReference(p int64) *missedTable {
	ways := [5]map[int64]int64{{0: 1}, {}, {}, {}, {}}
	table := &missedTable{}
	for length := 1; length <= 32; length++ {
		power, _ := strconv.ParseInt(divideReference("1"+strings.Repeat("0", length-1), p), 2, 64)
		for changed := 4; changed >= 1; changed-- {
			for sum, count := range ways[changed-1] {
				ways[changed][sum^power] += count
			}
			table[length][changed] = ways[changed][0]
		}
	}
	return table
}

// least returns the least number of changed bits of a length that can be missed, and whether there is one.
func (m *missedTable) least(length int) (int64, bool) {
	for changed := 1; changed <= 4; changed++ {
		if m[length][changed] > 0 {
			return int64(changed), true
		}
	}
	return 0, false
}

// first returns the least length at which so many changed bits can be missed, or 33.
func (m *missedTable) first(changed int) int {
	for length := 1; length <= 32; length++ {
		if m[length][changed] > 0 {
			return length
		}
	}
	return 33
}

func checkMissed(t *testing.T, p int64, table *missedTable) {
	t.Helper()
	for length := 1; length <= 32; length++ {
		n := int64(length)
		for changed := int64(1); changed <= 4; changed++ {
			got, ok := impl.CountMissed(p, n, changed)
			if got != table[length][changed] || !ok {
				t.Errorf("CountMissed %d %d %d: got %d %v, want %d", p, length, changed, got, ok, table[length][changed])
			}
		}
		expect(t, []row{{fmt.Sprint("LeastMissed ", p, length), show(impl.LeastMissed(p, n)), show(table.least(length))}})
	}
}

func TestPromise9MissedBySmallChecks(t *testing.T) {
	for p := int64(2); p < 128; p++ {
		t.Run(fmt.Sprint(p), func(t *testing.T) {
			t.Parallel()
			checkMissed(t, p, missedReference(p))
		})
	}
}

func TestPromise9MissedByLargeChecks(t *testing.T) {
	for _, p := range sampleChecks(rand.New(rand.NewSource(171))) {
		t.Run(fmt.Sprint(p), func(t *testing.T) {
			t.Parallel()
			checkMissed(t, p, missedReference(p))
		})
	}
}

// masksWith returns the texts of a length with so many bits 1.
func masksWith(length, ones int) []string {
	if ones < 0 || ones > length {
		return nil
	}
	if length == 0 {
		return []string{""}
	}
	return append(withBit("0", masksWith(length-1, ones)), withBit("1", masksWith(length-1, ones-1))...)
}

// checkFrames changes bits of what AddCheck returns in all ways, and compares how often they still have their check with what is told.
func checkFrames(t *testing.T, p int64, bits string) {
	t.Helper()
	frame, ok := impl.AddCheck(p, bits)
	length := int64(len(frame))
	least, some := impl.LeastMissed(p, length)
	for changed := int64(1); changed <= 4; changed++ {
		var unseen int64
		for _, mask := range masksWith(len(frame), int(changed)) {
			if impl.HasCheck(p, differences(frame, mask)) {
				unseen++
			}
		}
		name := fmt.Sprint(p, " ", frame, " changed ", changed)
		expect(t, []row{{"CountMissed " + name, show(impl.CountMissed(p, length, changed)), show(unseen, ok)}})
		if some && changed == least && unseen == 0 || (!some || changed < least) && unseen > 0 {
			t.Errorf("LeastMissed %s: got %d %v, and %d ways are not seen", name, least, some, unseen)
		}
	}
}

func TestPromise9ChangesOfFramesAreCounted(t *testing.T) {
	source := rand.New(rand.NewSource(172))
	check := func(p int64, length int) {
		bits := drawnBits(source, int64(max(length-degreeOf(p), 0)))
		t.Run(fmt.Sprint(p, length), func(t *testing.T) {
			t.Parallel()
			checkFrames(t, p, bits)
		})
	}
	for p := int64(2); p < 64; p++ {
		for length := degreeOf(p); length <= 11; length++ {
			check(p, length)
		}
	}
	for _, p := range sampleChecks(source) {
		check(p, 16)
		check(p, 18)
	}
	for _, p := range []int64{2, 11, 12, 285, 0x11021, 0x13d65, 1<<17 - 1} {
		check(p, 24)
	}
	check(11, 32)
	check(0x13d65, 32)
}

// Changes are missed by a power of x as long as its zeros are not changed, and by x + 1 if their number is even.
func TestPromise9MissedByFactorsXAndParity(t *testing.T) {
	for zeros := int64(0); zeros <= 16; zeros++ {
		for length := int64(1); length <= 32; length++ {
			for changed := int64(1); changed <= 4; changed++ {
				ways := int64(0)
				if length > zeros {
					ways, _ = impl.BinomialOf(length-zeros, min(changed, length-zeros))
				}
				if changed > length-zeros {
					ways = 0
				}
				name := fmt.Sprint(zeros, length, changed)
				if zeros > 0 {
					expect(t, []row{{"CountMissed of x " + name, show(impl.CountMissed(1<<zeros, length, changed)), show(ways, true)}})
				}
				if zeros < 16 {
					expect(t, []row{{"CountMissed of x + 1 " + name, show(impl.CountMissed(3<<zeros, length, changed)), show(ways*(1-changed%2), true)}})
				}
			}
		}
	}
}

// Two changed bits are missed from one bit more than the order on.
func TestPromise9TwoChangedBitsAndOrders(t *testing.T) {
	reached := 0
	for p := int64(3); p < 1<<17; p += 2 * (1 + p/200) {
		order, _ := impl.CheckOrder(p)
		for length := int64(1); length <= 32; length++ {
			var want int64
			for apart := order; apart < length; apart += order {
				want += length - apart
			}
			expect(t, []row{{fmt.Sprint("CountMissed ", p, length, " two"), show(impl.CountMissed(p, length, 2)), show(want, true)}})
		}
		if order <= 31 {
			reached++
			expect(t, []row{
				{fmt.Sprint("CountMissed as long as the order ", p), show(impl.CountMissed(p, order, 2)), "0 true"},
				{fmt.Sprint("CountMissed of one bit more ", p), show(impl.CountMissed(p, order+1, 2)), "1 true"},
			})
		}
	}
	if reached < 40 {
		t.Errorf("only %d orders are less than 32", reached)
	}
}

// Each number of changed bits is missed from some length on, by some checks up to 32 bits, and by others not.
func TestPromise9FirstLengths(t *testing.T) {
	var seen [5]map[int]bool
	for changed := range seen {
		seen[changed] = map[int]bool{}
	}
	for _, p := range sampleChecks(rand.New(rand.NewSource(173))) {
		table := missedReference(p)
		for changed := 1; changed <= 4; changed++ {
			first := table.first(changed)
			seen[changed][first] = true
			if first > 1 {
				expect(t, []row{{fmt.Sprint("CountMissed before it ", p, first-1, changed), show(impl.CountMissed(p, int64(first-1), int64(changed))), "0 true"}})
			}
			if first <= 32 {
				expect(t, []row{{fmt.Sprint("CountMissed ", p, first, changed), show(impl.CountMissed(p, int64(first), int64(changed))), show(table[first][changed], true)}})
			}
		}
	}
	if len(seen[1]) < 10 || len(seen[2]) < 8 || len(seen[3]) < 8 || len(seen[4]) < 8 || !seen[1][33] || !seen[4][33] {
		t.Errorf("the first lengths are %v", seen)
	}
}

func TestPromise9MissedExamples(t *testing.T) {
	expect(t, []row{
		{"two of 7", show(impl.CountMissed(11, 7, 2)), "0 true"},
		{"two of 8", show(impl.CountMissed(11, 8, 2)), "1 true"},
		{"two of 9", show(impl.CountMissed(11, 9, 2)), "2 true"},
		{"three of 7", show(impl.CountMissed(11, 7, 3)), "7 true"},
		{"four of 7", show(impl.CountMissed(11, 7, 4)), "7 true"},
		{"three of 3", show(impl.CountMissed(11, 3, 3)), "0 true"},
		{"three of 4", show(impl.CountMissed(11, 4, 3)), "1 true"},
		{"one of 32", show(impl.CountMissed(11, 32, 1)), "0 true"},
		{"the least of 7", show(impl.LeastMissed(11, 7)), "3 true"},
		{"the least of 8", show(impl.LeastMissed(11, 8)), "2 true"},
		{"the least of 3", show(impl.LeastMissed(11, 3)), noNumber},
		{"the least of 4", show(impl.LeastMissed(11, 4)), "3 true"},
		{"the least of 2 by 3", show(impl.LeastMissed(3, 2)), "2 true"},
		{"the least of 1 by 3", show(impl.LeastMissed(3, 1)), noNumber},
		{"one of one by 2", show(impl.CountMissed(2, 1, 1)), "0 true"},
		{"one of two by 2", show(impl.CountMissed(2, 2, 1)), "1 true"},
		{"one of one by 3", show(impl.CountMissed(3, 1, 1)), "0 true"},
		{"two of one", show(impl.CountMissed(3, 1, 2)), "0 true"},
		{"two of two", show(impl.CountMissed(3, 2, 2)), "1 true"},
		{"four of three", show(impl.CountMissed(3, 3, 4)), "0 true"},
		{"four of four", show(impl.CountMissed(3, 4, 4)), "1 true"},
		{"four of 32 by 3", show(impl.CountMissed(3, 32, 4)), "35960 true"},
		{"four of 32 by 2", show(impl.CountMissed(2, 32, 4)), "31465 true"},
		{"four of 32 by the greatest check", show(impl.CountMissed(131071, 32, 4)), "105 true"},
		{"the least by 4 of 2", show(impl.LeastMissed(4, 2)), noNumber},
		{"the least by 4 of 3", show(impl.LeastMissed(4, 3)), "1 true"},
		{"one by 2 to the power of 16, of 16", show(impl.CountMissed(1<<16, 16, 1)), "0 true"},
		{"one by 2 to the power of 16, of 17", show(impl.CountMissed(1<<16, 17, 1)), "1 true"},
		{"the least by 2 to the power of 16, of 16", show(impl.LeastMissed(1<<16, 16)), noNumber},
		{"the least by 2 to the power of 16, of 17", show(impl.LeastMissed(1<<16, 17)), "1 true"},
		{"the least by 0x11021 of 16", show(impl.LeastMissed(0x11021, 16)), noNumber},
		{"the least by 0x11021 of 17", show(impl.LeastMissed(0x11021, 17)), "4 true"},
		{"four by 0x11021 of 17", show(impl.CountMissed(0x11021, 17, 4)), "1 true"},
		{"the least by 0x13d65 of 32", show(impl.LeastMissed(0x13d65, 32)), noNumber},
		{"four by 0x13d65 of 32", show(impl.CountMissed(0x13d65, 32, 4)), "0 true"},
		{"the least by 12 of 3", show(impl.LeastMissed(12, 3)), noNumber},
		{"the least by 12 of 4", show(impl.LeastMissed(12, 4)), "2 true"},
		{"33 bits", show(impl.CountMissed(11, 33, 2)), noNumber},
		{"no bits", show(impl.CountMissed(11, 0, 1)), noNumber},
		{"5 changed bits", show(impl.CountMissed(11, 7, 5)), noNumber},
		{"no changed bits", show(impl.CountMissed(11, 7, 0)), noNumber},
		{"the least of 33", show(impl.LeastMissed(11, 33)), noNumber},
		{"the least of none", show(impl.LeastMissed(11, 0)), noNumber},
	})
}

func TestPromise9MissedThatFail(t *testing.T) {
	far := []int64{1 << 32, 1<<32 + 1, 1<<32 + 7, -1<<32 + 7, math.MinInt64 + 1, math.MinInt64 + 7, math.MaxInt64 - 1}
	for _, p := range []int64{2, 3, 4, 11, 12, 1<<17 - 1} {
		for _, length := range append(append(outside(32), far...), 0, 64, 65) {
			expect(t, []row{{fmt.Sprint("LeastMissed ", p, length), show(impl.LeastMissed(p, length)), noNumber}})
			for changed := int64(1); changed <= 4; changed++ {
				expect(t, []row{{fmt.Sprint("CountMissed ", p, length, changed), show(impl.CountMissed(p, length, changed)), noNumber}})
			}
		}
		for _, changed := range append(append(outside(4), far...), 0, 32, 64, 65) {
			for _, length := range []int64{1, 4, 5, 7, 32} {
				expect(t, []row{{fmt.Sprint("CountMissed ", p, length, changed), show(impl.CountMissed(p, length, changed)), noNumber}})
			}
		}
	}
	for _, p := range notChecks {
		for _, length := range []int64{1, 2, 7, 32} {
			expect(t, []row{{fmt.Sprint("LeastMissed ", p, length), show(impl.LeastMissed(p, length)), noNumber}})
			for changed := int64(1); changed <= 4; changed++ {
				expect(t, []row{{fmt.Sprint("CountMissed ", p, length, changed), show(impl.CountMissed(p, length, changed)), noNumber}})
			}
		}
		expect(t, []row{{fmt.Sprint("ShortestMissed ", p), show(impl.ShortestMissed(p)), noNumber}})
	}
}

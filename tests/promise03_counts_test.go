package tests

import (
	"fmt"
	"math"
	"math/big"
	"strings"
	"testing"

	"loop.example/g01142/impl"
)

// noTwoOnes is the graph of the bits without 11: 0 behind a bit 1, and 1 behind a bit 0.
func noTwoOnes() impl.Graph { return graphOf([]int64{1, -1}, []int64{1, 0}) }

// allowedByLength returns the allowed strings of each length up to one, in lexicographic order, and the other ones.
func allowedByLength(g impl.Graph, from int64, length int) ([][]string, []string) {
	allowed := make([][]string, length+1)
	var others []string
	for _, s := range textsUpTo(length) {
		if walk(g, from, s) >= 0 {
			allowed[len(s)] = append(allowed[len(s)], s)
		} else {
			others = append(others, s)
		}
	}
	return allowed, others
}

func TestPromise3CountsAndRanks(t *testing.T) {
	eachState(sampleGraphs(), func(name string, g impl.Graph, from int64) {
		allowed, others := allowedByLength(g, from, 5)
		for n, list := range allowed {
			length, count := int64(n), int64(len(list))
			expect(t, []row{{fmt.Sprint(name, "CountAllowed ", n), show(impl.CountAllowed(g, from, length)), show(count, true)}})
			for rank, s := range list {
				expect(t, []row{
					{fmt.Sprint(name, "BitsAt ", n, rank), show(impl.BitsAt(g, from, length, int64(rank))), show(s, true)},
					{name + "RankOfBits " + s, show(impl.RankOfBits(g, from, s)), show(rank, true)},
				})
			}
			for _, rank := range outside(count - 1) {
				expect(t, []row{{fmt.Sprint(name, "BitsAt ", n, rank), show(impl.BitsAt(g, from, length, rank)), noText}})
			}
		}
		for _, s := range append(others, notBits...) {
			expect(t, []row{{name + "RankOfBits " + s, show(impl.RankOfBits(g, from, s)), noNumber}})
		}
	})
}

// countReference returns how many strings of a length are allowed from each state.
func countReference(g impl.Graph, length int64) []*big.Int {
	counts := make([]*big.Int, len(g.Edges))
	for x := range counts {
		counts[x] = big.NewInt(1)
	}
	for range length {
		further := make([]*big.Int, len(counts))
		for x, edges := range g.Edges {
			further[x] = new(big.Int)
			for _, y := range edges {
				if y >= 0 {
					further[x].Add(further[x], counts[y])
				}
			}
		}
		counts = further
	}
	return counts
}

func TestPromise3LongCounts(t *testing.T) {
	for _, g := range sampleGraphs() {
		for _, length := range []int64{11, 12, 13, 31, 59, 60} {
			for x, count := range countReference(g, length) {
				name := fmt.Sprint("CountAllowed ", g, x, length)
				expect(t, []row{{name, show(impl.CountAllowed(g, int64(x), length)), show(count, true)}})
			}
		}
	}
}

func TestPromise3LongRanks(t *testing.T) {
	eachState(sampleGraphs(), func(name string, g impl.Graph, from int64) {
		for _, length := range []int64{33, 60} {
			count, _ := impl.CountAllowed(g, from, length)
			before := ""
			for _, rank := range []int64{0, 1, 2, count / 3, count / 2, count - 2, count - 1} {
				s, ok := impl.BitsAt(g, from, length, rank)
				call := fmt.Sprint(name, "BitsAt ", length, rank)
				if rank < 0 || rank >= count {
					expect(t, []row{{call, show(s, ok), noText}})
					continue
				}
				if !ok || int64(len(s)) != length || walk(g, from, s) < 0 || s < before && count > 6 {
					t.Errorf("%s: got %s %v", call, s, ok)
				}
				expect(t, []row{{call + ", back", show(impl.RankOfBits(g, from, s)), show(rank, true)}})
				before = s
			}
			expect(t, []row{{name + "BitsAt behind the last one", show(impl.BitsAt(g, from, length, count)), noText}})
		}
	})
}

func TestPromise3LengthsOutOfRange(t *testing.T) {
	eachState(sampleGraphs(), func(name string, g impl.Graph, from int64) {
		for _, length := range outside(60) {
			expect(t, []row{
				{fmt.Sprint(name, "CountAllowed ", length), show(impl.CountAllowed(g, from, length)), noNumber},
				{fmt.Sprint(name, "BitsAt ", length), show(impl.BitsAt(g, from, length, 0)), noText},
			})
		}
		expect(t, []row{
			{name + "CountAllowed 0", show(impl.CountAllowed(g, from, 0)), "1 true"},
			{name + "BitsAt 0 0", show(impl.BitsAt(g, from, 0, 0)), `"" true`},
			{name + "BitsAt 0 1", show(impl.BitsAt(g, from, 0, 1)), noText},
			{name + "RankOfBits of no bits", show(impl.RankOfBits(g, from, "")), "0 true"},
		})
	})
}

func TestPromise3CountsAtTheLimits(t *testing.T) {
	all, most := graphOf([]int64{0, 0}), int64(1)<<60
	both := impl.Graph{Edges: repeated([]int64{11, 0}, 12)}
	ones := strings.Repeat("1", 60)
	fibonacci := []int64{1, 2}
	for len(fibonacci) <= 60 {
		fibonacci = append(fibonacci, fibonacci[len(fibonacci)-1]+fibonacci[len(fibonacci)-2])
	}
	expect(t, []row{
		{"all bits", show(impl.CountAllowed(all, 0, 60)), show(most, true)},
		{"all bits of 12 states", show(impl.CountAllowed(both, 11, 60)), show(most, true)},
		{"the last of all bits", show(impl.BitsAt(all, 0, 60, most-1)), show(ones, true)},
		{"behind all bits", show(impl.BitsAt(all, 0, 60, most)), noText},
		{"the greatest rank", show(impl.BitsAt(all, 0, 60, math.MaxInt64)), noText},
		{"the rank of 60 bits", show(impl.RankOfBits(all, 0, ones)), show(most-1, true)},
		{"the rank of 61 bits", show(impl.RankOfBits(all, 0, ones+"0")), noNumber},
		{"the rank of 400 bits", show(impl.RankOfBits(all, 0, strings.Repeat("0", 400))), noNumber},
		{"bits without 11", show(impl.CountAllowed(noTwoOnes(), 1, 60)), show(fibonacci[60], true)},
		{"bits without 11 behind a bit 1", show(impl.CountAllowed(noTwoOnes(), 0, 60)), show(fibonacci[59], true)},
		{"the only bits", show(impl.BitsAt(graphOf([]int64{-1, 0}), 0, 60, 0)), show(ones, true)},
	})
}

func TestPromise3CountsOfTheExample(t *testing.T) {
	g, _ := impl.RunGraph(1, 3)
	for length, count := range []int64{1, 1, 2, 3, 4} {
		expect(t, []row{{fmt.Sprint("CountAllowed ", length), show(impl.CountAllowed(g, 0, int64(length))), show(count, true)}})
	}
	for rank, s := range []string{"0001", "0010", "0100", "0101"} {
		expect(t, []row{
			{fmt.Sprint("BitsAt ", rank), show(impl.BitsAt(g, 0, 4, int64(rank))), show(s, true)},
			{"RankOfBits " + s, show(impl.RankOfBits(g, 0, s)), show(rank, true)},
		})
	}
}

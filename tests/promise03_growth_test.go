package tests

import (
	"fmt"
	"math"
	"math/big"
	"testing"

	"loop.example/g01142/impl"
)

const noBounds = `{0 0} {0 0} false`

// connectedGraphs returns the sample graphs all states of which reach one another, and the other ones.
func connectedGraphs() ([]impl.Graph, []impl.Graph) {
	var connected, others []impl.Graph
	for _, g := range sampleGraphs() {
		count := 0
		for _, to := range reachedReference(g) {
			for _, isReached := range to {
				if isReached {
					count++
				}
			}
		}
		if count == len(g.Edges)*len(g.Edges) {
			connected = append(connected, g)
		} else {
			others = append(others, g)
		}
	}
	return connected, others
}

// boundsReference returns the bounds in each round up to MaxRounds.
func boundsReference(g impl.Graph) ([]*big.Rat, []*big.Rat) {
	var low, high []*big.Rat
	numbers := countReference(g, 0)
	for range impl.MaxRounds {
		var least, greatest *big.Rat
		further := make([]*big.Int, len(numbers))
		for x, edges := range g.Edges {
			further[x] = new(big.Int).Set(numbers[x])
			for _, y := range edges {
				if y >= 0 {
					further[x].Add(further[x], numbers[y])
				}
			}
			ratio := new(big.Rat).SetFrac(further[x], numbers[x])
			ratio.Sub(ratio, big.NewRat(1, 1))
			if least == nil || ratio.Cmp(least) < 0 {
				least = ratio
			}
			if greatest == nil || ratio.Cmp(greatest) > 0 {
				greatest = ratio
			}
		}
		low, high, numbers = append(low, least), append(high, greatest), further
	}
	return low, high
}

// growthReference returns nearly the growth of a connected graph.
func growthReference(g impl.Graph) float64 {
	numbers := repeated(1.0, len(g.Edges))
	growth := 0.0
	for range 5000 {
		further := make([]float64, len(numbers))
		greatest := 0.0
		for x, edges := range g.Edges {
			further[x] = numbers[x]
			for _, y := range edges {
				if y >= 0 {
					further[x] += numbers[y]
				}
			}
			greatest = max(greatest, further[x])
		}
		for x := range further {
			further[x] /= greatest
		}
		numbers, growth = further, greatest-1
	}
	return growth
}

func TestPromise3BoundsAreExact(t *testing.T) {
	connected, _ := connectedGraphs()
	if len(connected) < 60 {
		t.Fatalf("only %d graphs are connected", len(connected))
	}
	for _, g := range connected {
		low, high := boundsReference(g)
		for i := range low {
			least, greatest, ok := impl.GrowthBounds(g, int64(i+1))
			name := fmt.Sprint("GrowthBounds ", g, i+1)
			expect(t, []row{
				{name + ", least", show(least, ok), showRat(low[i])},
				{name + ", greatest", show(greatest, ok), showRat(high[i])},
			})
		}
	}
}

func TestPromise3BoundsComeNearerAndEnclose(t *testing.T) {
	connected, _ := connectedGraphs()
	for _, g := range connected {
		growth := growthReference(g)
		before, above, _ := impl.GrowthBounds(g, 1)
		for rounds := int64(1); rounds <= impl.MaxRounds; rounds++ {
			low, high, _ := impl.GrowthBounds(g, rounds)
			least, _ := ratOf(low).Float64()
			greatest, _ := ratOf(high).Float64()
			if least > growth+1e-9 || greatest < growth-1e-9 {
				t.Errorf("GrowthBounds %v %d: %v and %v do not enclose %v", g, rounds, low, high, growth)
			}
			if ratOf(low).Cmp(ratOf(before)) < 0 || ratOf(high).Cmp(ratOf(above)) > 0 {
				t.Errorf("GrowthBounds %v %d: %v and %v are further away than %v and %v", g, rounds, low, high, before, above)
			}
			before, above = low, high
		}
	}
}

// boundsText returns both bounds, shown.
func boundsText(g impl.Graph, rounds int64) string {
	low, high, ok := impl.GrowthBounds(g, rounds)
	return show(low, high, ok)
}

func TestPromise3BoundsOfExamples(t *testing.T) {
	all, wide := graphOf([]int64{0, 0}), impl.Graph{}
	for x := range int64(12) {
		wide.Edges = append(wide.Edges, []int64{(x + 1) % 12, (x + 2) % 12})
	}
	expect(t, []row{
		{"no 11, round 1", boundsText(noTwoOnes(), 1), "{1 1} {2 1} true"},
		{"no 11, round 2", boundsText(noTwoOnes(), 2), "{3 2} {5 3} true"},
		{"all bits, round 1", boundsText(all, 1), "{2 1} {2 1} true"},
		{"all bits, round 30", boundsText(all, 30), "{2 1} {2 1} true"},
		{"12 states and all bits, round 30", boundsText(wide, 30), "{2 1} {2 1} true"},
		{"one bit, round 30", boundsText(graphOf([]int64{-1, 0}), 30), "{1 1} {1 1} true"},
		{"a ring, round 30", boundsText(ring(12, func(int) bool { return false }), 30), "{1 1} {1 1} true"},
		{"both bits to one state", boundsText(graphOf([]int64{1, 1}, []int64{0, -1}), 1), "{1 1} {2 1} true"},
	})
}

func TestPromise3BoundsFail(t *testing.T) {
	connected, others := connectedGraphs()
	for _, g := range connected {
		for _, rounds := range append(outside(30), 0) {
			expect(t, []row{{fmt.Sprint("GrowthBounds ", g, rounds), boundsText(g, rounds), noBounds}})
		}
	}
	if len(others) < 60 {
		t.Fatalf("only %d graphs are not connected", len(others))
	}
	for _, g := range append(others, invalidGraphs()...) {
		for _, rounds := range []int64{1, 2, 30, 0, math.MaxInt64} {
			expect(t, []row{{fmt.Sprint("GrowthBounds, not connected ", rounds), boundsText(g, rounds), noBounds}})
		}
	}
}

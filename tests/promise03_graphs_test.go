package tests

import (
	"fmt"
	"math"
	"math/rand"
	"strings"
	"testing"

	"loop.example/g01142/impl"
)

const noGraph = `{[]} false`

func graphOf(edges ...[]int64) impl.Graph { return impl.Graph{Edges: edges} }

// smallGraphs returns all valid graphs with 1 or 2 states.
func smallGraphs() []impl.Graph {
	graphs := []impl.Graph{graphOf([]int64{0, -1}), graphOf([]int64{-1, 0}), graphOf([]int64{0, 0})}
	var rows [][]int64
	for zero := int64(-1); zero < 2; zero++ {
		for one := int64(-1); one < 2; one++ {
			if max(zero, one) >= 0 {
				rows = append(rows, []int64{zero, one})
			}
		}
	}
	for _, a := range rows {
		for _, b := range rows {
			graphs = append(graphs, graphOf(a, b))
		}
	}
	return graphs
}

// drawnGraphs returns graphs with some states; many of them lack edges, have states that are not reached, or are not connected.
func drawnGraphs(states, count int) []impl.Graph {
	source := rand.New(rand.NewSource(int64(states)))
	graphs := make([]impl.Graph, count)
	for i := range graphs {
		for range states {
			edges := []int64{-1, -1}
			for max(edges[0], edges[1]) < 0 {
				for bit := range edges {
					edges[bit] = -1
					if source.Intn(3) < 1+i%3 {
						edges[bit] = int64(source.Intn(states))
					}
				}
			}
			graphs[i].Edges = append(graphs[i].Edges, edges)
		}
	}
	return graphs
}

// largeGraphs returns graphs with 3 to 12 states.
func largeGraphs() []impl.Graph {
	var graphs []impl.Graph
	for states := 3; states <= impl.MaxStates; states++ {
		graphs = append(graphs, drawnGraphs(states, 12)...)
	}
	for most := int64(2); most <= impl.MaxZeros; most++ {
		for _, least := range []int64{0, 1, most} {
			g, _ := impl.RunGraph(least, most)
			graphs = append(graphs, g)
		}
		g, _ := impl.SumGraph(most + 1)
		graphs = append(graphs, g)
	}
	return graphs
}

func sampleGraphs() []impl.Graph { return append(smallGraphs(), largeGraphs()...) }

func invalidGraphs() []impl.Graph {
	return []impl.Graph{
		{}, {Edges: [][]int64{}}, graphOf(nil), graphOf([]int64{}), graphOf([]int64{0}), graphOf([]int64{0, 0, 0}),
		graphOf([]int64{-1, -1}), graphOf([]int64{0, 0}, []int64{-1, -1}), graphOf([]int64{-1, -1}, []int64{0, 0}),
		graphOf([]int64{0, 1}), graphOf([]int64{1, -1}), graphOf([]int64{0, -2}), graphOf([]int64{-2, 0}),
		graphOf([]int64{0, 1}, []int64{0, 2}), graphOf([]int64{0, 1}, nil), graphOf([]int64{0, 1}, []int64{0}),
		graphOf([]int64{0, math.MaxInt64}), graphOf([]int64{math.MinInt64, 0}),
		{Edges: repeated([]int64{0, 0}, 13)}, {Edges: repeated([]int64{0, 12}, 12)}, {Edges: repeated([]int64{0, 1}, 10000)},
	}
}

// outside returns numbers which are not from 0 to most.
func outside(most int64) []int64 {
	return []int64{-1, -2, math.MinInt64, most + 1, most + 2, math.MaxInt64}
}

// walk returns the state to which bits lead, or -1 if they are not allowed.
func walk(g impl.Graph, from int64, s string) int64 {
	for _, digit := range s {
		if from < 0 {
			return -1
		}
		from = g.Edges[from][digit-'0']
	}
	return from
}

// eachState calls a function for each state of each graph.
func eachState(graphs []impl.Graph, check func(name string, g impl.Graph, from int64)) {
	for _, g := range graphs {
		for from := range int64(len(g.Edges)) {
			check(fmt.Sprint(g.Edges, " from ", from, ": "), g, from)
		}
	}
}

func TestPromise3ValidGraphs(t *testing.T) {
	graphs := append(sampleGraphs(), impl.Graph{Edges: repeated([]int64{0, 11}, 12)}, impl.Graph{Edges: repeated([]int64{-1, 11}, 12)})
	for _, g := range graphs {
		if !impl.ValidGraph(g) {
			t.Errorf("%v is valid", g)
		}
	}
	for _, g := range invalidGraphs() {
		if impl.ValidGraph(g) {
			t.Errorf("%v is not valid", g)
		}
	}
}

func TestPromise3InvalidGraphsFail(t *testing.T) {
	all := graphOf([]int64{0, 0})
	for i, g := range invalidGraphs() {
		name := fmt.Sprint("invalid graph ", i, ": ")
		_, _, isBounded := impl.GrowthBounds(g, 1)
		merged, classes, isMerged := impl.MergeGraph(g)
		expect(t, []row{
			{name + "StateBehind", show(impl.StateBehind(g, 0, "")), noNumber},
			{name + "StateBehind 0", show(impl.StateBehind(g, 0, "0")), noNumber},
			{name + "IsAllowed", show(impl.IsAllowed(g, 0, "")), "false"},
			{name + "CountAllowed", show(impl.CountAllowed(g, 0, 0)), noNumber},
			{name + "CountAllowed 1", show(impl.CountAllowed(g, 0, 1)), noNumber},
			{name + "BitsAt", show(impl.BitsAt(g, 0, 0, 0)), noText},
			{name + "RankOfBits", show(impl.RankOfBits(g, 0, "")), noNumber},
			{name + "ReachedFrom", show(impl.ReachedFrom(g, 0)), noList},
			{name + "IsConnected", show(impl.IsConnected(g)), "false"},
			{name + "MergeGraph", show(merged, classes, isMerged), "{[]} [] false"},
			{name + "FirstTelling, left", show(impl.FirstTelling(g, all, 0, 0)), noText},
			{name + "FirstTelling, right", show(impl.FirstTelling(all, g, 0, 0)), noText},
			{name + "GrowthBounds", show(isBounded), "false"},
			{name + "CodeVector", show(impl.CodeVector(g, 1, 8, 30)), noList},
			{name + "IsCodeVector", show(impl.IsCodeVector(g, 1, 8, repeated[int64](1, len(g.Edges)))), "false"},
		})
	}
}

func TestPromise3NoStatesFail(t *testing.T) {
	for _, g := range sampleGraphs() {
		for _, x := range outside(int64(len(g.Edges)) - 1) {
			name := fmt.Sprint(g.Edges, " from ", x, ": ")
			expect(t, []row{
				{name + "StateBehind", show(impl.StateBehind(g, x, "")), noNumber},
				{name + "IsAllowed", show(impl.IsAllowed(g, x, "")), "false"},
				{name + "CountAllowed", show(impl.CountAllowed(g, x, 0)), noNumber},
				{name + "BitsAt", show(impl.BitsAt(g, x, 0, 0)), noText},
				{name + "RankOfBits", show(impl.RankOfBits(g, x, "")), noNumber},
				{name + "ReachedFrom", show(impl.ReachedFrom(g, x)), noList},
				{name + "FirstTelling, left", show(impl.FirstTelling(g, graphOf([]int64{0, -1}), x, 0)), noText},
				{name + "FirstTelling, right", show(impl.FirstTelling(graphOf([]int64{0, 0}), g, 0, x)), noText},
			})
		}
	}
}

// hasRuns reports whether s, behind a bit 1, has at least least and at most most bits 0 between any two neighbouring bits 1.
func hasRuns(s string, least, most int64) bool {
	runs := strings.Split(s, "1")
	for i, run := range runs {
		length := int64(len(run))
		if length > most || length < least && i < len(runs)-1 {
			return false
		}
	}
	return true
}

func TestPromise3RunGraphs(t *testing.T) {
	texts := textsUpTo(7)
	for least := int64(-2); least <= 12; least++ {
		for most := int64(-2); most <= 12; most++ {
			g, ok := impl.RunGraph(least, most)
			name := fmt.Sprint("RunGraph ", least, most)
			if least < 0 || most > 10 || least > most {
				expect(t, []row{{name, show(g, ok), noGraph}})
				continue
			}
			if !ok || int64(len(g.Edges)) != most+1 {
				t.Fatalf("%s: got %v %v", name, g, ok)
			}
			for x := range most + 1 {
				want := []int64{x + 1, 0}
				if x == most {
					want[0] = -1
				}
				if x < least {
					want[1] = -1
				}
				expect(t, []row{{fmt.Sprint(name, ", the state ", x), show(g.Edges[x]), show(want)}})
			}
			for _, s := range texts {
				expect(t, []row{{name + " " + s, show(impl.IsAllowed(g, 0, s)), show(hasRuns(s, least, most))}})
			}
		}
	}
	expect(t, []row{
		{"RunGraph 0 0", show(impl.RunGraph(0, 0)), "{[[-1 0]]} true"},
		{"RunGraph 1 1", show(impl.RunGraph(1, 1)), "{[[1 -1] [-1 0]]} true"},
		{"RunGraph 1 3", show(impl.RunGraph(1, 3)), "{[[1 -1] [2 0] [3 0] [-1 0]]} true"},
		{"RunGraph of the least numbers", show(impl.RunGraph(math.MinInt64, math.MinInt64)), noGraph},
		{"RunGraph of the greatest numbers", show(impl.RunGraph(math.MaxInt64, math.MaxInt64)), noGraph},
		{"RunGraph of all numbers", show(impl.RunGraph(math.MinInt64, math.MaxInt64)), noGraph},
	})
}

// staysBetween reports whether the sum of s, which begins with x, stays from 0 to most.
func staysBetween(s string, x, most int64) bool {
	for _, digit := range s {
		x += 2*int64(digit-'0') - 1
		if x < 0 || x > most {
			return false
		}
	}
	return true
}

func TestPromise3SumGraphs(t *testing.T) {
	texts := textsUpTo(7)
	for most := int64(1); most <= 11; most++ {
		g, ok := impl.SumGraph(most)
		if !ok || int64(len(g.Edges)) != most+1 {
			t.Fatalf("SumGraph %d: got %v %v", most, g, ok)
		}
		eachState([]impl.Graph{g}, func(name string, g impl.Graph, x int64) {
			want := []int64{x - 1, x + 1}
			if x == most {
				want[1] = -1
			}
			expect(t, []row{{name + "edges", show(g.Edges[x]), show(want)}})
			for _, s := range texts {
				expect(t, []row{{name + s, show(impl.IsAllowed(g, x, s)), show(staysBetween(s, x, most))}})
			}
		})
	}
	for _, most := range append(outside(11), 0) {
		expect(t, []row{{fmt.Sprint("SumGraph ", most), show(impl.SumGraph(most)), noGraph}})
	}
}

func TestPromise3StatesBehind(t *testing.T) {
	texts := textsUpTo(6)
	eachState(sampleGraphs(), func(name string, g impl.Graph, from int64) {
		for _, s := range texts {
			want, state := noNumber, walk(g, from, s)
			if state >= 0 {
				want = show(state, true)
			}
			expect(t, []row{
				{name + "StateBehind " + s, show(impl.StateBehind(g, from, s)), want},
				{name + "IsAllowed " + s, show(impl.IsAllowed(g, from, s)), show(state >= 0)},
			})
		}
		for _, s := range notBits {
			expect(t, []row{
				{name + "StateBehind " + s, show(impl.StateBehind(g, from, s)), noNumber},
				{name + "IsAllowed " + s, show(impl.IsAllowed(g, from, s)), "false"},
			})
		}
	})
}

func TestPromise3StatesBehindLongBits(t *testing.T) {
	all, turns := graphOf([]int64{0, 0}), graphOf([]int64{1, -1}, []int64{2, -1}, []int64{0, -1})
	zeros := strings.Repeat("0", 400)
	expect(t, []row{
		{"400 bits", show(impl.StateBehind(turns, 0, zeros)), "1 true"},
		{"401 bits", show(impl.StateBehind(turns, 0, zeros+"0")), noNumber},
		{"400 bits, the last one not allowed", show(impl.StateBehind(turns, 0, zeros[1:]+"1")), noNumber},
		{"400 allowed bits", show(impl.IsAllowed(all, 0, zeros[1:]+"1")), "true"},
		{"401 allowed bits", show(impl.IsAllowed(all, 0, zeros+"1")), "false"},
		{"no bits", show(impl.StateBehind(turns, 2, "")), "2 true"},
		{"runs", show(impl.IsAllowed(graphOf([]int64{1, -1}, []int64{2, 0}, []int64{3, 0}, []int64{-1, 0}), 0, "01001")), "true"},
	})
}

func TestPromise3ReachedStates(t *testing.T) {
	for _, g := range sampleGraphs() {
		reached, isConnected := reachedReference(g), true
		for from, to := range reached {
			var want []int64
			for y, isReached := range to {
				if isReached {
					want = append(want, int64(y))
				}
			}
			isConnected = isConnected && len(want) == len(g.Edges)
			expect(t, []row{{fmt.Sprint("ReachedFrom ", g, from), show(impl.ReachedFrom(g, int64(from))), show(want, true)}})
		}
		expect(t, []row{{fmt.Sprint("IsConnected ", g), show(impl.IsConnected(g)), show(isConnected)}})
	}
	line := graphOf([]int64{1, -1}, []int64{2, -1}, []int64{-1, 2})
	two := graphOf([]int64{1, -1}, []int64{-1, 0}, []int64{3, -1}, []int64{-1, 2})
	expect(t, []row{
		{"a state alone", show(impl.ReachedFrom(graphOf([]int64{0, -1}), 0)), "[0] true"},
		{"a state alone is connected", show(impl.IsConnected(graphOf([]int64{0, -1}))), "true"},
		{"a line from its beginning", show(impl.ReachedFrom(line, 0)), "[0 1 2] true"},
		{"a line from its end", show(impl.ReachedFrom(line, 2)), "[2] true"},
		{"a line", show(impl.IsConnected(line)), "false"},
		{"the second one of two parts", show(impl.ReachedFrom(two, 3)), "[2 3] true"},
		{"two parts", show(impl.IsConnected(two)), "false"},
	})
}

// reachedReference returns for each two states whether the second one is reached from the first one.
func reachedReference(g impl.Graph) [][]bool {
	reached := make([][]bool, len(g.Edges))
	for x, edges := range g.Edges {
		reached[x] = make([]bool, len(g.Edges))
		reached[x][x] = true
		for _, y := range edges {
			if y >= 0 {
				reached[x][y] = true
			}
		}
	}
	for between := range reached {
		for x := range reached {
			for y := range reached {
				reached[x][y] = reached[x][y] || reached[x][between] && reached[between][y]
			}
		}
	}
	return reached
}

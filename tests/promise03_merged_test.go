package tests

import (
	"fmt"
	"strings"
	"testing"

	"loop.example/g01142/impl"
)

// never is longer than any bits that tell two states apart.
const never = 1000

// tellingLengths returns for each state of g and each of h how many bits are needed for some that are allowed from the
// first one only, or never.
func tellingLengths(g, h impl.Graph) [][]int {
	lengths := make([][]int, len(g.Edges))
	for x := range lengths {
		lengths[x] = repeated(never, len(h.Edges))
	}
	for hasChanged := true; hasChanged; {
		hasChanged = false
		for x := range g.Edges {
			for y := range h.Edges {
				for bit := range 2 {
					if length := lengthBehind(g, h, x, y, bit, lengths); length < lengths[x][y] {
						lengths[x][y] = length
						hasChanged = true
					}
				}
			}
		}
	}
	return lengths
}

// lengthBehind returns how many bits are needed if they begin with one bit.
func lengthBehind(g, h impl.Graph, x, y, bit int, lengths [][]int) int {
	left, right := g.Edges[x][bit], h.Edges[y][bit]
	switch {
	case left < 0:
		return never
	case right < 0:
		return 1
	}
	return min(never, 1+lengths[left][right])
}

// tellingReference returns what FirstTelling must return, shown.
func tellingReference(g, h impl.Graph, x, y int, lengths [][]int) string {
	if lengths[x][y] == never {
		return noText
	}
	s := ""
	for left := lengths[x][y]; left > 0; left-- {
		bit := 0
		if lengthBehind(g, h, x, y, 0, lengths) != left {
			bit = 1
		}
		s += fmt.Sprint(bit)
		x, y = int(g.Edges[x][bit]), int(h.Edges[y][bit])
	}
	return show(s, true)
}

func checkTelling(t *testing.T, g, h impl.Graph) {
	t.Helper()
	lengths := tellingLengths(g, h)
	for x := range g.Edges {
		for y := range h.Edges {
			name := fmt.Sprint("FirstTelling ", g, h, x, y)
			expect(t, []row{{name, show(impl.FirstTelling(g, h, int64(x), int64(y))), tellingReference(g, h, x, y, lengths)}})
		}
	}
}

func TestPromise3FirstTelling(t *testing.T) {
	graphs := largeGraphs()
	for i, g := range graphs {
		checkTelling(t, g, g)
		checkTelling(t, g, graphs[(i+7)%len(graphs)])
		checkTelling(t, graphs[(i+31)%len(graphs)], g)
	}
}

func TestPromise3FirstTellingByTrying(t *testing.T) {
	graphs, texts := smallGraphs(), textsUpTo(4)
	for _, h := range graphs {
		eachState(graphs, func(name string, g impl.Graph, from int64) {
			for other := range int64(len(h.Edges)) {
				want := noText
				for _, s := range texts {
					if walk(g, from, s) >= 0 && walk(h, other, s) < 0 {
						want = show(s, true)
						break
					}
				}
				expect(t, []row{{fmt.Sprint(name, "FirstTelling ", h, other), show(impl.FirstTelling(g, h, from, other)), want}})
			}
		})
	}
}

func TestPromise3FirstTellingOfTheLanguages(t *testing.T) {
	all := graphOf([]int64{0, 0})
	runs, _ := impl.RunGraph(1, 3)
	further, _ := impl.RunGraph(1, 10)
	expect(t, []row{
		{"all bits and those without 11", show(impl.FirstTelling(all, noTwoOnes(), 0, 1)), `"11" true`},
		{"bits without 11 and all bits", show(impl.FirstTelling(noTwoOnes(), all, 1, 0)), noText},
		{"a graph and itself", show(impl.FirstTelling(runs, runs, 2, 2)), noText},
		{"longer runs", show(impl.FirstTelling(further, runs, 0, 0)), `"0000" true`},
		{"shorter runs", show(impl.FirstTelling(runs, further, 0, 0)), noText},
		{"the lesser one of two", show(impl.FirstTelling(all, graphOf([]int64{1, 1}, []int64{0, -1}), 0, 0)), `"01" true`},
		{"the shorter one", show(impl.FirstTelling(all, graphOf([]int64{1, -1}, []int64{-1, 0}), 0, 0)), `"1" true`},
	})
}

// ring returns states of which each one is led to the next one by the bit 0, and allows a bit 1 if rule says so.
func ring(states int, rule func(x int) bool) impl.Graph {
	var g impl.Graph
	for x := range states {
		edges := []int64{int64((x + 1) % states), -1}
		if rule(x) {
			edges[1] = 0
		}
		g.Edges = append(g.Edges, edges)
	}
	return g
}

func TestPromise3LongTelling(t *testing.T) {
	// Both are at their last states together behind 131 bits 0 only.
	last := ring(12, func(x int) bool { return x == 11 })
	notLast := ring(11, func(x int) bool { return x != 10 })
	want := show(strings.Repeat("0", 131)+"1", true)
	expect(t, []row{{"132 bits", show(impl.FirstTelling(last, notLast, 0, 0)), want}})
	checkTelling(t, last, notLast)
	checkTelling(t, notLast, last)
}

func TestPromise3MergedGraphs(t *testing.T) {
	for _, g := range sampleGraphs() {
		lengths := tellingLengths(g, g)
		want := make([]int64, len(g.Edges))
		var edges [][]int64
		for x := range want {
			want[x] = int64(len(edges))
			for y := range x {
				if lengths[x][y] == never && lengths[y][x] == never {
					want[x] = want[y]
				}
			}
			if want[x] == int64(len(edges)) {
				edges = append(edges, g.Edges[x])
			}
		}
		merged := impl.Graph{}
		for _, list := range edges {
			behind := []int64{-1, -1}
			for bit, y := range list {
				if y >= 0 {
					behind[bit] = want[y]
				}
			}
			merged.Edges = append(merged.Edges, behind)
		}
		h, classes, ok := impl.MergeGraph(g)
		expect(t, []row{{fmt.Sprint("MergeGraph ", g), show(h, classes, ok), show(merged, want, true)}})
	}
}

func TestPromise3MergedGraphsAllowTheSame(t *testing.T) {
	texts := textsUpTo(6)
	for _, g := range sampleGraphs() {
		h, classes, _ := impl.MergeGraph(g)
		again, same, _ := impl.MergeGraph(h)
		each := make([]int64, len(h.Edges))
		for x := range each {
			each[x] = int64(x)
		}
		expect(t, []row{{fmt.Sprint("merged again ", g), show(again, same), show(h, each)}})
		for x, class := range classes {
			for _, s := range texts {
				if (walk(g, int64(x), s) >= 0) != (walk(h, class, s) >= 0) {
					t.Errorf("MergeGraph %v: %s is allowed from one of %d and %d", g, s, x, class)
				}
			}
		}
	}
}

func TestPromise3MergedExamples(t *testing.T) {
	for _, c := range []struct {
		g       impl.Graph
		edges   string
		classes string
	}{
		{graphOf([]int64{0, 0}), "{[[0 0]]}", "[0]"},
		{impl.Graph{Edges: repeated([]int64{3, 11}, 12)}, "{[[0 0]]}", "[0 0 0 0 0 0 0 0 0 0 0 0]"},
		{ring(12, func(int) bool { return false }), "{[[0 -1]]}", "[0 0 0 0 0 0 0 0 0 0 0 0]"},
		{ring(12, func(x int) bool { return x%2 == 0 }), "{[[1 0] [0 -1]]}", "[0 1 0 1 0 1 0 1 0 1 0 1]"},
		{graphOf([]int64{1, 2}, []int64{0, -1}, []int64{0, -1}), "{[[1 1] [0 -1]]}", "[0 1 1]"},
		{graphOf([]int64{1, -1}, []int64{0, -1}, []int64{0, 1}), "{[[0 -1] [0 0]]}", "[0 0 1]"},
		{graphOf([]int64{0, -1}, []int64{-1, 1}, []int64{0, -1}, []int64{-1, 3}), "{[[0 -1] [-1 1]]}", "[0 1 0 1]"},
	} {
		h, classes, ok := impl.MergeGraph(c.g)
		expect(t, []row{{fmt.Sprint("MergeGraph ", c.g), show(h, classes, ok), c.edges + " " + c.classes + " true"}})
	}
}

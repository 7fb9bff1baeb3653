package tests

import (
	"math"
	"strings"
	"testing"

	"loop.example/g01142/impl"
)

var chapter2 = map[string]any{
	"ValidGraph":   impl.ValidGraph,
	"RunGraph":     impl.RunGraph,
	"SumGraph":     impl.SumGraph,
	"StateBehind":  impl.StateBehind,
	"IsAllowed":    impl.IsAllowed,
	"CountAllowed": impl.CountAllowed,
	"BitsAt":       impl.BitsAt,
	"RankOfBits":   impl.RankOfBits,
	"ReachedFrom":  impl.ReachedFrom,
	"IsConnected":  impl.IsConnected,
	"MergeGraph":   impl.MergeGraph,
	"FirstTelling": impl.FirstTelling,
	"GrowthBounds": impl.GrowthBounds,
	"CodeVector":   impl.CodeVector,
	"IsCodeVector": impl.IsCodeVector,
}

var chapter2Numbers = []int64{
	math.MinInt64, -1, 0, 1, 2, 8, 11, 30, 60, math.MaxInt64,
}

var chapter2Texts = []string{
	"", "0", "1", "01001", "11", "0101", "012", "\xff",
	strings.Repeat("01", 30), strings.Repeat("01", 30) + "0", strings.Repeat("0", 400), strings.Repeat("0", 401),
	strings.Repeat("01", 5000),
}

var vectorPool = [][]int64{
	nil, {}, {1}, {0}, {1, 2}, {2, 1}, {0, 0}, {30, 30}, {31, 1}, {-1, 1}, {math.MinInt64, math.MaxInt64},
	repeated[int64](1, 11), repeated[int64](30, 12), repeated[int64](1, 13),
}

// graphPool has valid graphs and some that are not valid.
func graphPool() []impl.Graph {
	longest, _ := impl.RunGraph(2, 7)
	sums, _ := impl.SumGraph(11)
	return []impl.Graph{
		{Edges: [][]int64{{0, -1}}}, {Edges: [][]int64{{0, 0}}},
		{Edges: [][]int64{{1, -1}, {1, 0}}}, {Edges: [][]int64{{1, -1}, {1, 1}}},
		{Edges: [][]int64{{0, 0}, {-1, 1}}}, {Edges: [][]int64{{1, 2}, {0, -1}, {0, -1}}},
		longest, sums, {Edges: repeated([]int64{0, 11}, 12)}, {Edges: repeated([]int64{0, 12}, 13)},
		{}, {Edges: [][]int64{}}, {Edges: [][]int64{nil}}, {Edges: [][]int64{{0, 0, 0}}}, {Edges: [][]int64{{-1, -1}}},
		{Edges: [][]int64{{0, math.MaxInt64}}}, {Edges: [][]int64{{math.MinInt64, 0}}},
	}
}

func TestPromise1Chapter2(t *testing.T) {
	checkChapter(t, chapter2, poolsOf(pooled(chapter2Texts), pooled(chapter2Numbers), pooled(vectorPool), pooled(graphPool())))
}

func TestPromise1NilAndEmptyGraphsAndVectorsAreTheSame(t *testing.T) {
	g := impl.Graph{Edges: [][]int64{{0, 0}}}
	none, empty := impl.Graph{}, impl.Graph{Edges: [][]int64{}}
	noRow, emptyRow := impl.Graph{Edges: [][]int64{nil}}, impl.Graph{Edges: [][]int64{{}}}
	expect(t, []row{
		{"ValidGraph without states", show(impl.ValidGraph(none)), show(impl.ValidGraph(empty))},
		{"ValidGraph without edges", show(impl.ValidGraph(noRow)), show(impl.ValidGraph(emptyRow))},
		{"MergeGraph without states", show(impl.MergeGraph(none)), show(impl.MergeGraph(empty))},
		{"IsCodeVector without numbers", show(impl.IsCodeVector(g, 1, 1, nil)), show(impl.IsCodeVector(g, 1, 1, []int64{}))},
	})
}

func TestPromise1GraphsShareNoMemory(t *testing.T) {
	for name, get := range map[string]func() (impl.Graph, []int64, bool){
		"RunGraph": func() (impl.Graph, []int64, bool) {
			g, ok := impl.RunGraph(1, 3)
			return g, nil, ok
		},
		"SumGraph": func() (impl.Graph, []int64, bool) {
			g, ok := impl.SumGraph(4)
			return g, nil, ok
		},
		"MergeGraph": func() (impl.Graph, []int64, bool) {
			return impl.MergeGraph(impl.Graph{Edges: [][]int64{{1, 2}, {0, -1}, {0, -1}}})
		},
	} {
		first, classes, _ := get()
		second, other, _ := get()
		want := show(second, other)
		for _, list := range append(first.Edges, classes) {
			for i := range list[:cap(list)] {
				list[:cap(list)][i] = 43
			}
		}
		if got := show(second, other); got != want {
			t.Errorf("%s: a result has become %s instead of %s when another one was overwritten", name, got, want)
		}
	}
}

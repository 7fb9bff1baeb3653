package tests

import (
	"fmt"
	"slices"
	"testing"

	"loop.example/g01142/impl"
)

// waysByTrying returns how many strings of a length lead from each state to each one.
func waysByTrying(g impl.Graph, length int) [][]int64 {
	ways := make([][]int64, len(g.Edges))
	for x := range ways {
		ways[x] = make([]int64, len(g.Edges))
		for _, s := range textsUpTo(length) {
			if y := walk(g, int64(x), s); len(s) == length && y >= 0 {
				ways[x][y]++
			}
		}
	}
	return ways
}

// fulfils reports whether the numbers of a vector are not too great, and are not all 0.
func fulfils(ways [][]int64, p int, vector []int64) bool {
	for x, n := range vector {
		var sum int64
		for y, count := range ways[x] {
			sum += count * vector[y]
		}
		if sum < n<<p {
			return false
		}
	}
	return slices.Max(vector) > 0
}

// vectorsUpTo returns all vectors for some states with numbers up to most.
func vectorsUpTo(states int, most int64) [][]int64 {
	vectors := [][]int64{{}}
	for range states {
		var longer [][]int64
		for _, vector := range vectors {
			for n := range most + 1 {
				longer = append(longer, append(slices.Clone(vector), n))
			}
		}
		vectors = longer
	}
	return vectors
}

// greatestByTrying returns what CodeVector must return, shown.
func greatestByTrying(vectors [][]int64, ways [][]int64, p int, most int64) string {
	greatest := make([]int64, len(ways))
	for _, vector := range vectors {
		if slices.Max(vector) <= most && fulfils(ways, p, vector) {
			for x, n := range vector {
				greatest[x] = max(greatest[x], n)
			}
		}
	}
	if slices.Max(greatest) == 0 {
		return noList
	}
	return show(greatest, true)
}

func TestPromise3CodeVectorsByTrying(t *testing.T) {
	for _, g := range append(smallGraphs(), drawnGraphs(3, 40)...) {
		vectors := vectorsUpTo(len(g.Edges), 4)
		for q := 1; q <= 5; q++ {
			ways := waysByTrying(g, q)
			for p := 1; p <= 5; p++ {
				name := fmt.Sprint(g.Edges, " with ", p, " bits in ", q, ": ")
				for _, vector := range vectors {
					got := impl.IsCodeVector(g, int64(p), int64(q), vector)
					if got != fulfils(ways, p, vector) {
						t.Errorf("%sIsCodeVector %v: got %v", name, vector, got)
					}
				}
				for most := int64(1); most <= 4; most++ {
					got := show(impl.CodeVector(g, int64(p), int64(q), most))
					expect(t, []row{{fmt.Sprint(name, "CodeVector ", most), got, greatestByTrying(vectors, ways, p, most)}})
				}
			}
		}
	}
}

// greatestReference lowers all numbers at once, by as much as the sums of all numbers tell.
func greatestReference(ways [][]int64, p int, most int64) string {
	vector := repeated(most, len(ways))
	for hasChanged := true; hasChanged; {
		lower := make([]int64, len(ways))
		for x := range ways {
			for y, count := range ways[x] {
				lower[x] += count * vector[y]
			}
			lower[x] = min(vector[x], lower[x]>>p)
		}
		hasChanged = !slices.Equal(vector, lower)
		vector = lower
	}
	if slices.Max(vector) == 0 {
		return noList
	}
	return show(vector, true)
}

func TestPromise3GreatestCodeVectors(t *testing.T) {
	for _, g := range largeGraphs() {
		for _, q := range []int{1, 2, 3, 8} {
			ways := waysByTrying(g, q)
			for _, p := range []int{1, 2, 5, 8} {
				for _, most := range []int64{1, 2, 7, 30} {
					vector, ok := impl.CodeVector(g, int64(p), int64(q), most)
					name := fmt.Sprint("CodeVector ", g, p, q, most)
					expect(t, []row{{name, show(vector, ok), greatestReference(ways, p, most)}})
					if ok != impl.IsCodeVector(g, int64(p), int64(q), vector) {
						t.Errorf("%s: IsCodeVector %v does not report %v", name, vector, ok)
					}
				}
			}
		}
	}
}

func TestPromise3CodeVectorsOfExamples(t *testing.T) {
	all, both := graphOf([]int64{0, 0}), graphOf([]int64{0, 0}, []int64{-1, 1})
	towards := graphOf([]int64{0, -1}, []int64{0, 2}, []int64{2, 2})
	root := graphOf([]int64{1, 1}, []int64{0, -1})
	runs, _ := impl.RunGraph(1, 3)
	long, _ := impl.RunGraph(1, 7)
	expect(t, []row{
		{"no 11", show(impl.CodeVector(noTwoOnes(), 2, 3, 2)), "[1 2] true"},
		{"no 11, numbers too small", show(impl.CodeVector(noTwoOnes(), 2, 3, 1)), noList},
		{"no 11, too many bits", show(impl.CodeVector(noTwoOnes(), 3, 3, 2)), noList},
		{"all bits", show(impl.CodeVector(all, 8, 8, 30)), "[30] true"},
		{"more than all bits", show(impl.CodeVector(all, 8, 7, 30)), noList},
		{"a part that becomes 0", show(impl.CodeVector(both, 1, 1, 5)), "[5 0] true"},
		{"no part that becomes 0", show(impl.CodeVector(both, 1, 2, 5)), "[5 0] true"},
		{"a state that lives of another one", show(impl.CodeVector(towards, 1, 1, 6)), "[0 3 6] true"},
		{"one that lives of a number too small", show(impl.CodeVector(towards, 1, 1, 1)), "[0 0 1] true"},
		{"just as many bits as the growth", show(impl.CodeVector(root, 1, 2, 3)), "[3 3] true"},
		{"one bit, whose growth is 1", show(impl.CodeVector(graphOf([]int64{0, -1}), 1, 8, 30)), noList},
		{"runs, half as many bits", show(impl.CodeVector(runs, 1, 2, 30)), greatestReference(waysByTrying(runs, 2), 1, 30)},
		{"runs, too many bits", show(impl.CodeVector(runs, 2, 3, 30)), noList},
		{"long runs", show(impl.CodeVector(long, 2, 3, 3)), "[2 3 3 3 2 2 2 1] true"},
	})
}

func TestPromise3CodeVectorsOutOfRange(t *testing.T) {
	all := graphOf([]int64{0, 0})
	for _, n := range append(outside(8), 0) {
		expect(t, []row{
			{fmt.Sprint("CodeVector, p ", n), show(impl.CodeVector(all, n, 8, 1)), noList},
			{fmt.Sprint("CodeVector, q ", n), show(impl.CodeVector(all, 1, n, 1)), noList},
			{fmt.Sprint("IsCodeVector, p ", n), show(impl.IsCodeVector(all, n, 8, []int64{1})), "false"},
			{fmt.Sprint("IsCodeVector, q ", n), show(impl.IsCodeVector(all, 1, n, []int64{1})), "false"},
		})
	}
	for _, most := range append(outside(30), 0) {
		expect(t, []row{{fmt.Sprint("CodeVector, most ", most), show(impl.CodeVector(all, 1, 1, most)), noList}})
	}
	for n := int64(1); n <= 8; n++ {
		expect(t, []row{
			{fmt.Sprint("CodeVector, as many bits ", n), show(impl.CodeVector(all, n, n, 30)), "[30] true"},
			{fmt.Sprint("IsCodeVector, as many bits ", n), show(impl.IsCodeVector(all, n, n, []int64{30})), "true"},
		})
	}
}

func TestPromise3NoCodeVectors(t *testing.T) {
	all, both := graphOf([]int64{0, 0}), graphOf([]int64{0, 1}, []int64{1, 0})
	for _, n := range append(outside(30), 0) {
		expect(t, []row{
			{fmt.Sprint("IsCodeVector ", n), show(impl.IsCodeVector(all, 1, 1, []int64{n})), "false"},
			{fmt.Sprint("IsCodeVector 1 ", n), show(impl.IsCodeVector(both, 1, 1, []int64{1, n})), "false"},
		})
	}
	for states := range 13 {
		vector := repeated[int64](1, states)
		expect(t, []row{{fmt.Sprint("IsCodeVector ", vector), show(impl.IsCodeVector(both, 1, 1, vector)), show(states == 2)}})
	}
	most := impl.Graph{Edges: repeated([]int64{0, 11}, 12)}
	expect(t, []row{
		{"nil", show(impl.IsCodeVector(all, 1, 1, nil)), "false"},
		{"no numbers", show(impl.IsCodeVector(all, 1, 1, []int64{})), "false"},
		{"all 0", show(impl.IsCodeVector(both, 1, 1, []int64{0, 0})), "false"},
		{"the greatest numbers", show(impl.IsCodeVector(both, 8, 8, []int64{30, 30})), "true"},
		{"some 0", show(impl.IsCodeVector(graphOf([]int64{0, 0}, []int64{-1, 1}), 1, 1, []int64{1, 0})), "true"},
		{"too few numbers, with which 0 would do", show(impl.IsCodeVector(graphOf([]int64{0, 0}, []int64{-1, 1}), 1, 1, []int64{1})), "false"},
		{"12 numbers", show(impl.IsCodeVector(most, 8, 8, repeated[int64](30, 12))), "true"},
		{"13 numbers", show(impl.IsCodeVector(most, 8, 8, repeated[int64](30, 13))), "false"},
		{"no 11", show(impl.IsCodeVector(noTwoOnes(), 2, 3, []int64{1, 2})), "true"},
		{"no 11, too great", show(impl.IsCodeVector(noTwoOnes(), 2, 3, []int64{1, 1})), "false"},
	})
}

package tests

import (
	"fmt"
	"math"
	"math/rand"
	"strings"
	"testing"

	"loop.example/g01142/impl"
)

// notSides are numbers that no block has as rows or columns, and no sliding interleaver as branches or step.
var notSides = []int64{
	0, -1, -2, -3, -20, 21, 22, 40, 400, 1 << 32, 1<<32 + 1, 1<<32 + 2, 1<<32 + 20, -1<<32 + 2,
	math.MinInt64, math.MinInt64 + 1, math.MinInt64 + 2, math.MinInt64 + 3, math.MaxInt64 - 1, math.MaxInt64,
}

// placesReference returns for each place behind BlockInterleave the place before it: the places are
// written row by row into a table, which is read column by column.
func placesReference(rows, columns int) []int {
	table := make([][]int, rows)
	for place := range rows * columns {
		table[place/columns] = append(table[place/columns], place)
	}
	var order []int
	for column := range columns {
		for _, line := range table {
			order = append(order, line[column])
		}
	}
	return order
}

// blockReference returns bits in the order of a block.
func blockReference(order []int, bits string) string {
	var all strings.Builder
	for _, place := range order {
		all.WriteByte(bits[place])
	}
	return all.String()
}

// eachBlock calls a function for all blocks.
func eachBlock(check func(rows, columns int)) {
	for rows := 1; rows <= 20; rows++ {
		for columns := 1; columns <= 20; columns++ {
			check(rows, columns)
		}
	}
}

func checkBlock(t *testing.T, rows, columns int, bits string) {
	t.Helper()
	behind := blockReference(placesReference(rows, columns), bits)
	r, c := int64(rows), int64(columns)
	name := fmt.Sprint(rows, columns, " ", bits)
	expect(t, []row{
		{"BlockInterleave " + name, show(impl.BlockInterleave(r, c, bits)), show(behind, true)},
		{"BlockDeinterleave behind " + name, show(impl.BlockDeinterleave(r, c, behind)), show(bits, true)},
		{"BlockDeinterleave by columns " + name, show(impl.BlockDeinterleave(c, r, bits)), show(behind, true)},
	})
}

func TestPromise9Limits(t *testing.T) {
	expect(t, []row{{"the limits of the document", show(impl.MaxSide, impl.MaxDegree, impl.MaxSearched, impl.MaxChanged), "20 16 32 4"}})
}

func TestPromise9AllSmallBlocks(t *testing.T) {
	eachBlock(func(rows, columns int) {
		if rows*columns <= 10 {
			for _, bits := range textsOf(int64(rows * columns)) {
				checkBlock(t, rows, columns, bits)
			}
		}
	})
}

func TestPromise9Blocks(t *testing.T) {
	source := rand.New(rand.NewSource(141))
	eachBlock(func(rows, columns int) {
		for _, bits := range longTexts(source, int64(rows*columns)) {
			checkBlock(t, rows, columns, bits)
		}
		for range 3 {
			checkBlock(t, rows, columns, drawnBits(source, int64(rows*columns)))
		}
	})
}

// With as many texts as a place has binary digits, each place is told from all others.
func TestPromise9EachPlaceComesBack(t *testing.T) {
	eachBlock(func(rows, columns int) {
		for digit := range 9 {
			var bits strings.Builder
			for place := range rows * columns {
				bits.WriteByte('0' + byte(place>>digit&1))
			}
			checkBlock(t, rows, columns, bits.String())
		}
	})
}

func TestPromise9Places(t *testing.T) {
	eachBlock(func(rows, columns int) {
		r, c := int64(rows), int64(columns)
		for behind, place := range placesReference(rows, columns) {
			if got, ok := impl.PlaceBehind(r, c, int64(place)); got != int64(behind) || !ok {
				t.Fatalf("PlaceBehind %d %d %d: got %d %v, want %d", rows, columns, place, got, ok, behind)
			}
		}
		last := r*c - 1
		name := fmt.Sprint(rows, columns)
		checks := []row{
			{"the first place " + name, show(impl.PlaceBehind(r, c, 0)), "0 true"},
			{"the last place " + name, show(impl.PlaceBehind(r, c, last)), show(last, true)},
			{"the place before the first one " + name, show(impl.PlaceBehind(r, c, -1)), noNumber},
			{"the place behind the last one " + name, show(impl.PlaceBehind(r, c, last+1)), noNumber},
		}
		for _, place := range append(outside(last), last+3, -last-1, 1<<32, 1<<32+1, -1<<32, math.MinInt64+1, math.MaxInt64-1) {
			checks = append(checks, row{fmt.Sprint("PlaceBehind ", name, place), show(impl.PlaceBehind(r, c, place)), noNumber})
		}
		expect(t, checks)
	})
}

// A bit is where PlaceBehind tells.
func TestPromise9BitsAreAtTheirPlaces(t *testing.T) {
	for _, sides := range [][2]int64{{1, 1}, {1, 20}, {20, 1}, {2, 3}, {3, 2}, {7, 7}, {5, 20}, {20, 19}, {20, 20}} {
		rows, columns := sides[0], sides[1]
		for place := range rows * columns {
			single := withChange(strings.Repeat("0", int(rows*columns)), int(place))
			behind, _ := impl.BlockInterleave(rows, columns, single)
			got, ok := impl.PlaceBehind(rows, columns, place)
			if !ok || int64(strings.Index(behind, "1")) != got || strings.Count(behind, "1") != 1 {
				t.Errorf("%d %d: the bit at %d is told to come to %d, and %s has it", rows, columns, place, got, behind)
			}
		}
	}
}

func TestPromise9BlockExamples(t *testing.T) {
	zeros := strings.Repeat("0", 401)
	half := strings.Repeat("0", 200) + strings.Repeat("1", 200)
	ten := strings.Repeat("0", 10) + strings.Repeat("1", 10)
	written := ""
	for _, place := range []int64{0, 1, 2, 3, 4, 5} {
		written += show(impl.PlaceBehind(2, 3, place)) + ", "
	}
	expect(t, []row{
		{"123456 would become 142536", written, "0 true, 2 true, 4 true, 1 true, 3 true, 5 true, "},
		{"2 rows of 3", show(impl.BlockInterleave(2, 3, "011010")), `"001110" true`},
		{"2 rows of 3, back", show(impl.BlockDeinterleave(2, 3, "001110")), `"011010" true`},
		{"3 rows of 2", show(impl.BlockInterleave(3, 2, "001110")), `"011010" true`},
		{"3 rows of 2, back", show(impl.BlockDeinterleave(3, 2, "011010")), `"001110" true`},
		{"one row", show(impl.BlockInterleave(1, 4, "0010")), `"0010" true`},
		{"one row, back", show(impl.BlockDeinterleave(1, 4, "0010")), `"0010" true`},
		{"one column", show(impl.BlockInterleave(4, 1, "0010")), `"0010" true`},
		{"one column, back", show(impl.BlockDeinterleave(4, 1, "0010")), `"0010" true`},
		{"one place", show(impl.BlockInterleave(1, 1, "1")), `"1" true`},
		{"one place, back", show(impl.BlockDeinterleave(1, 1, "0")), `"0" true`},
		{"the place of one", show(impl.PlaceBehind(1, 1, 0)), "0 true"},
		{"no second place", show(impl.PlaceBehind(1, 1, 1)), noNumber},
		{"20 rows of 20", show(impl.BlockInterleave(20, 20, half)), show(strings.Repeat(ten, 20), true)},
		{"20 rows of 20, back", show(impl.BlockDeinterleave(20, 20, half)), show(strings.Repeat(ten, 20), true)},
		{"the second place of 400", show(impl.PlaceBehind(20, 20, 1)), "20 true"},
		{"the last but one place of 400", show(impl.PlaceBehind(20, 20, 398)), "379 true"},
		{"too few bits", show(impl.BlockInterleave(2, 3, "01")), noText},
		{"no bits", show(impl.BlockInterleave(1, 1, "")), noText},
		{"one bit more than 400", show(impl.BlockInterleave(20, 20, zeros)), noText},
		{"one bit more than 400, back", show(impl.BlockDeinterleave(20, 20, zeros)), noText},
		{"21 rows", show(impl.BlockInterleave(21, 1, zeros[:21])), noText},
		{"21 columns", show(impl.BlockInterleave(1, 21, zeros[:21])), noText},
		{"no rows", show(impl.BlockInterleave(0, 3, "")), noText},
		{"no columns", show(impl.BlockInterleave(3, 0, "")), noText},
		{"two negative sides", show(impl.BlockInterleave(-2, -3, "011010")), noText},
	})
}

func TestPromise9BlocksOfOtherLengths(t *testing.T) {
	eachBlock(func(rows, columns int) {
		r, c, places := int64(rows), int64(columns), rows*columns
		for _, length := range []int{0, 1, rows, columns, places - 1, places + 1, places + columns, 2 * places, 400, 401, 800} {
			if length == places {
				continue
			}
			bits := strings.Repeat("01", (length+1)/2)[:length]
			expect(t, []row{
				{fmt.Sprint("BlockInterleave ", rows, columns, " of ", length), show(impl.BlockInterleave(r, c, bits)), noText},
				{fmt.Sprint("BlockDeinterleave ", rows, columns, " of ", length), show(impl.BlockDeinterleave(r, c, bits)), noText},
			})
		}
	})
}

// withoutBits are texts of some length of which one byte is no bit.
func withoutBits(length int) []string {
	var texts []string
	for _, other := range []string{"2", "/", "a", " ", "\x00", "\x01", "\xff"} {
		zeros := strings.Repeat("0", length-1)
		texts = append(texts, other+zeros, zeros+other, zeros[:length/2]+other+zeros[length/2:])
	}
	return texts
}

func TestPromise9BlocksThatFail(t *testing.T) {
	for _, n := range notSides {
		for _, side := range []int64{1, 2, 20} {
			for _, bits := range []string{"", "0", "01", strings.Repeat("01", 10), strings.Repeat("0", 21), strings.Repeat("01", 20), strings.Repeat("1", 42), strings.Repeat("1", 400), strings.Repeat("1", 420)} {
				name := fmt.Sprint(n, side, bits)
				expect(t, []row{
					{"BlockInterleave, rows " + name, show(impl.BlockInterleave(n, side, bits)), noText},
					{"BlockInterleave, columns " + name, show(impl.BlockInterleave(side, n, bits)), noText},
					{"BlockInterleave, both " + name, show(impl.BlockInterleave(n, n, bits)), noText},
					{"BlockDeinterleave, rows " + name, show(impl.BlockDeinterleave(n, side, bits)), noText},
					{"BlockDeinterleave, columns " + name, show(impl.BlockDeinterleave(side, n, bits)), noText},
					{"BlockDeinterleave, both " + name, show(impl.BlockDeinterleave(n, n, bits)), noText},
				})
			}
			for _, place := range []int64{0, 1, n, n*side - 1, math.MinInt64, math.MaxInt64} {
				name := fmt.Sprint(n, side, place)
				expect(t, []row{
					{"PlaceBehind, rows " + name, show(impl.PlaceBehind(n, side, place)), noNumber},
					{"PlaceBehind, columns " + name, show(impl.PlaceBehind(side, n, place)), noNumber},
					{"PlaceBehind, both " + name, show(impl.PlaceBehind(n, n, place)), noNumber},
				})
			}
		}
	}
	for _, sides := range [][2]int64{{1, 1}, {1, 2}, {2, 1}, {2, 3}, {20, 20}} {
		for _, text := range append(withoutBits(int(sides[0]*sides[1])), notBits...) {
			expect(t, []row{
				{"BlockInterleave " + text, show(impl.BlockInterleave(sides[0], sides[1], text)), noText},
				{"BlockDeinterleave " + text, show(impl.BlockDeinterleave(sides[0], sides[1], text)), noText},
			})
		}
	}
}

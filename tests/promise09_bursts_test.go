package tests

import (
	"fmt"
	"math"
	"slices"
	"strings"
	"testing"

	"loop.example/g01142/impl"
)

// mostReference returns, for each length of a burst, the most bits of one row
// that are counted in a burst, from each place on behind BlockInterleave.
func mostReference(order []int, rows, columns int) []int64 {
	most := make([]int64, len(order)+1)
	for start := range order {
		counts := make([]int64, rows)
		for i, place := range order[start:] {
			counts[place/columns]++
			most[i+1] = max(most[i+1], slices.Max(counts))
		}
	}
	return most
}

// apartReference returns, for each length of a burst from 2 on, the least difference
// of the places of two bits which are nearer to each other behind BlockInterleave.
func apartReference(order []int) []int64 {
	apart := repeated[int64](math.MaxInt64, len(order)+1)
	for burst := 2; burst <= len(order); burst++ {
		apart[burst] = apart[burst-1]
		for i, place := range order[burst-1:] {
			apart[burst] = min(apart[burst], max(int64(place-order[i]), int64(order[i]-place)))
		}
	}
	return apart
}

func checkBurst(t *testing.T, rows, columns, burst int, most, apart int64) {
	t.Helper()
	want := show(apart, true)
	if burst < 2 {
		want = noNumber
	}
	name := fmt.Sprint(rows, columns, burst)
	expect(t, []row{
		{"MostInRow " + name, show(impl.MostInRow(int64(rows), int64(columns), int64(burst))), show(most, true)},
		{"LeastApart " + name, show(impl.LeastApart(int64(rows), int64(columns), int64(burst))), want},
	})
}

// burstsOf returns the lengths of all bursts of small blocks, and of some in large ones.
func burstsOf(rows, columns int) []int {
	places := rows * columns
	var bursts []int
	for burst := 1; burst <= places; burst++ {
		isNear := burst <= 4 || burst >= places-2 || burst%rows <= 1 && burst <= 4*rows || burst%rows == rows-1 && burst <= 2*rows
		if places <= 100 || isNear {
			bursts = append(bursts, burst)
		}
	}
	return bursts
}

func TestPromise9Bursts(t *testing.T) {
	eachBlock(func(rows, columns int) {
		t.Run(fmt.Sprint(rows, columns), func(t *testing.T) {
			t.Parallel()
			order := placesReference(rows, columns)
			most, apart := mostReference(order, rows, columns), apartReference(order)
			for _, burst := range burstsOf(rows, columns) {
				checkBurst(t, rows, columns, burst, most[burst], apart[burst])
			}
		})
	})
}

// changedPlaces returns where the bits of a burst have come when they are read row by row again.
func changedPlaces(t *testing.T, rows, columns, start, burst int) []int {
	places := rows * columns
	behind := strings.Repeat("0", start) + strings.Repeat("1", burst) + strings.Repeat("0", places-start-burst)
	before, ok := impl.BlockDeinterleave(int64(rows), int64(columns), behind)
	if !ok || strings.Count(before, "1") != burst {
		t.Fatalf("BlockDeinterleave %d %d %s: got %s %v", rows, columns, behind, before, ok)
	}
	var changed []int
	for place, digit := range before {
		if digit == '1' {
			changed = append(changed, place)
		}
	}
	return changed
}

// checkSpread changes all bursts of a length, and compares how they are spread with what is told.
func checkSpread(t *testing.T, rows, columns, burst int) {
	t.Helper()
	most, apart := 0, math.MaxInt
	for start := range rows*columns - burst + 1 {
		inRow := make([]int, rows)
		changed := changedPlaces(t, rows, columns, start, burst)
		for i, place := range changed {
			inRow[place/columns]++
			if i > 0 {
				apart = min(apart, place-changed[i-1])
			}
		}
		most = max(most, slices.Max(inRow))
	}
	checkBurst(t, rows, columns, burst, int64(most), int64(apart))
}

// No burst has more bits in a row, or bits that are nearer, than is told, and some burst has as many and as near ones.
func TestPromise9BurstsAreSpread(t *testing.T) {
	for rows := 1; rows <= 6; rows++ {
		for columns := 1; columns <= 6; columns++ {
			for burst := 1; burst <= rows*columns; burst++ {
				checkSpread(t, rows, columns, burst)
			}
		}
	}
	for _, sides := range [][2]int{{20, 20}, {20, 1}, {1, 20}, {20, 7}, {7, 20}, {19, 20}, {20, 19}, {2, 20}, {20, 2}} {
		rows, columns := sides[0], sides[1]
		for _, burst := range []int{1, 2, 3, rows - 1, rows, rows + 1, 2 * rows, 2*rows + 1, rows*columns - 1, rows * columns} {
			if 1 <= burst && burst <= rows*columns {
				checkSpread(t, rows, columns, burst)
			}
		}
	}
}

// A burst of a whole column has one bit of each row, and one bit more is the second one of its row.
func TestPromise9BurstsOfColumns(t *testing.T) {
	eachBlock(func(rows, columns int) {
		r, c := int64(rows), int64(columns)
		for count := int64(1); count <= c; count++ {
			name := fmt.Sprint(rows, columns, " columns ", count)
			checks := []row{
				{"MostInRow " + name, show(impl.MostInRow(r, c, count*r)), show(count, true)},
				{"MostInRow of the first bit of them " + name, show(impl.MostInRow(r, c, (count-1)*r+1)), show(count, true)},
			}
			if count < c {
				checks = append(checks, row{"MostInRow of one bit more " + name, show(impl.MostInRow(r, c, count*r+1)), show(count+1, true)})
			}
			expect(t, checks)
		}
	})
}

func TestPromise9BurstExamples(t *testing.T) {
	expect(t, []row{
		{"3 bits of 2 by 3", show(impl.MostInRow(2, 3, 3)), "2 true"},
		{"2 bits of 2 by 3 apart", show(impl.LeastApart(2, 3, 2)), "2 true"},
		{"3 bits of 2 by 3 apart", show(impl.LeastApart(2, 3, 3)), "1 true"},
		{"one bit", show(impl.MostInRow(2, 3, 1)), "1 true"},
		{"one bit apart", show(impl.LeastApart(2, 3, 1)), noNumber},
		{"two bits", show(impl.MostInRow(2, 3, 2)), "1 true"},
		{"all bits of 2 by 3", show(impl.MostInRow(2, 3, 6)), "3 true"},
		{"all bits of 2 by 3 apart", show(impl.LeastApart(2, 3, 6)), "1 true"},
		{"one bit more than all of 2 by 3", show(impl.MostInRow(2, 3, 7)), noNumber},
		{"one bit more than all of 2 by 3 apart", show(impl.LeastApart(2, 3, 7)), noNumber},
		{"one place", show(impl.MostInRow(1, 1, 1)), "1 true"},
		{"one place apart", show(impl.LeastApart(1, 1, 1)), noNumber},
		{"two bits of one place", show(impl.MostInRow(1, 1, 2)), noNumber},
		{"two bits of one place apart", show(impl.LeastApart(1, 1, 2)), noNumber},
		{"one row", show(impl.MostInRow(1, 20, 7)), "7 true"},
		{"one row apart", show(impl.LeastApart(1, 20, 2)), "1 true"},
		{"one column", show(impl.MostInRow(20, 1, 20)), "1 true"},
		{"one column apart", show(impl.LeastApart(20, 1, 20)), "1 true"},
		{"a column of 400", show(impl.MostInRow(20, 20, 20)), "1 true"},
		{"one bit more than a column of 400", show(impl.MostInRow(20, 20, 21)), "2 true"},
		{"400 bits", show(impl.MostInRow(20, 20, 400)), "20 true"},
		{"401 bits", show(impl.MostInRow(20, 20, 401)), noNumber},
		{"2 bits of 400 apart", show(impl.LeastApart(20, 20, 2)), "20 true"},
		{"a column of 400 apart", show(impl.LeastApart(20, 20, 20)), "19 true"},
		{"one bit more than a column of 400 apart", show(impl.LeastApart(20, 20, 21)), "1 true"},
		{"400 bits apart", show(impl.LeastApart(20, 20, 400)), "1 true"},
		{"401 bits apart", show(impl.LeastApart(20, 20, 401)), noNumber},
		{"2 bits of 2 by 20 apart", show(impl.LeastApart(2, 20, 2)), "19 true"},
		{"2 bits of 20 by 2 apart", show(impl.LeastApart(20, 2, 2)), "2 true"},
	})
}

func TestPromise9BurstsThatFail(t *testing.T) {
	eachBlock(func(rows, columns int) {
		r, c := int64(rows), int64(columns)
		for _, burst := range append(outside(r*c), 0, -r, r*c+r, 400+r, 1<<32, 1<<32+2, -1<<32+2, math.MinInt64+2, math.MaxInt64-1) {
			name := fmt.Sprint(rows, columns, burst)
			expect(t, []row{
				{"MostInRow " + name, show(impl.MostInRow(r, c, burst)), noNumber},
				{"LeastApart " + name, show(impl.LeastApart(r, c, burst)), noNumber},
			})
		}
		expect(t, []row{{fmt.Sprint("LeastApart of one bit ", rows, columns), show(impl.LeastApart(r, c, 1)), noNumber}})
	})
	for _, n := range notSides {
		for _, side := range []int64{1, 2, 20} {
			for _, burst := range []int64{1, 2, 20, n, n * side, math.MinInt64, math.MaxInt64} {
				name := fmt.Sprint(n, side, burst)
				expect(t, []row{
					{"MostInRow, rows " + name, show(impl.MostInRow(n, side, burst)), noNumber},
					{"MostInRow, columns " + name, show(impl.MostInRow(side, n, burst)), noNumber},
					{"MostInRow, both " + name, show(impl.MostInRow(n, n, burst)), noNumber},
					{"LeastApart, rows " + name, show(impl.LeastApart(n, side, burst)), noNumber},
					{"LeastApart, columns " + name, show(impl.LeastApart(side, n, burst)), noNumber},
					{"LeastApart, both " + name, show(impl.LeastApart(n, n, burst)), noNumber},
				})
			}
		}
	}
}

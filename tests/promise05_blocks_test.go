package tests

import (
	"fmt"
	"math/rand"
	"slices"
	"strings"
	"testing"

	"loop.example/g01142/impl"
)

// cobsReference returns long bytes without 0; the parts between the bytes 0 are cut into blocks one by one.
func cobsReference(plain []int64) []int64 {
	var long []int64
	parts := strings.Split(textOf(plain), "\x00")
	for i, part := range parts {
		isCut := len(part) >= 254
		for len(part) >= 254 {
			long = append(append(long, 255), numbersOf(part[:254])...)
			part = part[254:]
		}
		if isCut && part == "" && i == len(parts)-1 {
			break
		}
		long = append(append(long, int64(len(part)+1)), numbersOf(part)...)
	}
	return long
}

// series returns so many bytes other than 0, which are different from their neighbours.
func series(count int) []int64 {
	list := make([]int64, count)
	for i := range list {
		list[i] = int64(i%255 + 1)
	}
	return list
}

func checkBlocks(t *testing.T, plain []int64) {
	t.Helper()
	want := cobsReference(plain)
	expect(t, []row{
		{fmt.Sprint("CobsBytes ", plain), show(impl.CobsBytes(plain)), show(want, true)},
		{fmt.Sprint("UncobsBytes of what is made of ", plain), show(impl.UncobsBytes(want)), show(plain, true)},
	})
	if slices.Contains(want, 0) {
		t.Errorf("%v: 0 is among the long bytes", plain)
	}
}

func TestPromise5BlocksComeBack(t *testing.T) {
	source := rand.New(rand.NewSource(9))
	checkBlocks(t, nil)
	for _, plain := range listsUpTo(4, 0, 1, 2, 255) {
		checkBlocks(t, plain)
	}
	for b := range int64(256) {
		checkBlocks(t, []int64{b})
		checkBlocks(t, []int64{0, b, b, 0})
	}
	for _, count := range []int{10, 100, 253, 254, 255, 256, 299, 300} {
		checkBlocks(t, series(count))
		checkBlocks(t, make([]int64, count))
		checkBlocks(t, drawnBytes(source, count, []int64{0, 1}))
		checkBlocks(t, drawnBytes(source, count, []int64{1, 254, 255}))
	}
}

// Parts of about MaxBlock bytes stand behind and before other ones and bytes 0.
func TestPromise5FullBlocksComeBack(t *testing.T) {
	others := [][]int64{{}, {0}, {0, 0}, {7, 0}, {0, 7}, {0, 7, 0}, {7}, {0, 0, 7, 8, 9}, append([]int64{0}, series(40)...)}
	for count := 250; count <= 258; count++ {
		for _, before := range others {
			for _, behind := range others {
				if plain := slices.Concat(before, series(count), behind); len(plain) <= 300 {
					checkBlocks(t, plain)
				}
			}
		}
	}
}

// All long bytes of a few numbers are read as far as they are made from bytes.
func TestPromise5OnlyBlocksAreRead(t *testing.T) {
	made := map[string][]int64{}
	for _, plain := range listsUpTo(5, 0, 1, 2, 3, 4) {
		made[textOf(cobsReference(plain))] = plain
	}
	for _, long := range listsUpTo(6, 0, 1, 2, 3, 4) {
		plain, ok := made[textOf(long)]
		expect(t, []row{{fmt.Sprint("UncobsBytes ", long), show(impl.UncobsBytes(long)), show(plain, ok)}})
	}
}

// The same with about MaxBlock bytes before these numbers.
func TestPromise5OnlyBlocksAreReadBesideFullOnes(t *testing.T) {
	tails := listsUpTo(4, 0, 1, 2, 3)
	for _, beginning := range []struct{ plain, long []int64 }{{}, {[]int64{0}, []int64{1}}, {[]int64{9, 9, 0}, []int64{3, 9, 9}}} {
		for count := 253; count <= 255; count++ {
			made := map[string][]int64{}
			for _, tail := range tails {
				plain := slices.Concat(beginning.plain, series(count), tail)
				made[textOf(cobsReference(plain))] = plain
			}
			for _, tail := range tails {
				for first := int64(253); first <= 255; first++ {
					long := slices.Concat(beginning.long, []int64{first}, series(count), tail)
					plain, ok := made[textOf(long)]
					expect(t, []row{{fmt.Sprint("UncobsBytes ", long), show(impl.UncobsBytes(long)), show(plain, ok)}})
				}
			}
		}
	}
}

func TestPromise5BlocksHaveALimit(t *testing.T) {
	ones := func(count int) []int64 { return repeated[int64](1, count) }
	expect(t, []row{
		{"300 bytes", show(impl.CobsBytes(series(300))), show(cobsReference(series(300)), true)},
		{"301 bytes", show(impl.CobsBytes(series(301))), noList},
		{"300 bytes 0", show(impl.CobsBytes(make([]int64, 300))), show(ones(301), true)},
		{"301 bytes 0", show(impl.CobsBytes(make([]int64, 301))), noList},
		{"many bytes", show(impl.CobsBytes(make([]int64, 100000))), noList},
		{"blocks of 300 bytes 0", show(impl.UncobsBytes(ones(301))), show(make([]int64, 300), true)},
		{"blocks of 301 bytes 0", show(impl.UncobsBytes(ones(302))), noList},
		{"blocks of 300 bytes", show(impl.UncobsBytes(cobsReference(series(300)))), show(series(300), true)},
		{"blocks of 301 bytes", show(impl.UncobsBytes(cobsReference(series(301)))), noList},
		{"blocks of 508 bytes", show(impl.UncobsBytes(cobsReference(series(508)))), noList},
		{"600 long bytes", show(impl.UncobsBytes(ones(600))), noList},
		{"601 long bytes", show(impl.UncobsBytes(ones(601))), noList},
		{"many long bytes", show(impl.UncobsBytes(ones(100000))), noList},
	})
}

func TestPromise5NumbersThatAreNoBytesInBlocks(t *testing.T) {
	for _, n := range notBytes {
		for at := range 4 {
			plain := slices.Insert([]int64{7, 0, 9}, at, n)
			long := slices.Insert([]int64{2, 7, 1}, at, n)
			expect(t, []row{
				{fmt.Sprint("CobsBytes ", plain), show(impl.CobsBytes(plain)), noList},
				{fmt.Sprint("UncobsBytes ", long), show(impl.UncobsBytes(long)), noList},
			})
		}
		block := append([]int64{255}, series(254)...)
		for _, at := range []int{1, 100, 254} {
			block[at] = n
			expect(t, []row{{fmt.Sprint("UncobsBytes of a full block ", n, at), show(impl.UncobsBytes(block)), noList}})
			block[at] = 1
		}
	}
	for at := range 255 {
		block := append([]int64{255}, series(254)...)
		block[at] = 0
		expect(t, []row{{fmt.Sprint("UncobsBytes of a full block with a 0 at ", at), show(impl.UncobsBytes(block)), noList}})
	}
}

func TestPromise5BlocksOfExamples(t *testing.T) {
	full := append([]int64{255}, series(254)...)
	with := func(list []int64, more ...int64) []int64 { return append(slices.Clone(list), more...) }
	expect(t, []row{
		{"the document's bytes", show(impl.CobsBytes([]int64{1, 0, 2})), "[2 1 2 2] true"},
		{"they come back", show(impl.UncobsBytes([]int64{2, 1, 2, 2})), "[1 0 2] true"},
		{"no bytes", show(impl.CobsBytes(nil)), "[1] true"},
		{"no bytes come back", show(impl.UncobsBytes([]int64{1})), "[] true"},
		{"no long bytes", show(impl.UncobsBytes(nil)), noList},
		{"one 0", show(impl.CobsBytes([]int64{0})), "[1 1] true"},
		{"a block that is too long", show(impl.UncobsBytes([]int64{3, 1})), noList},
		{"a 0 as a number of bytes", show(impl.UncobsBytes([]int64{0})), noList},
		{"a 0 in a block", show(impl.UncobsBytes([]int64{3, 1, 0})), noList},
		{"253 bytes", show(impl.CobsBytes(series(253))), show(append([]int64{254}, series(253)...), true)},
		{"253 bytes and 0", show(impl.CobsBytes(with(series(253), 0))), show(with(append([]int64{254}, series(253)...), 1), true)},
		{"254 bytes", show(impl.CobsBytes(series(254))), show(full, true)},
		{"254 bytes and 0", show(impl.CobsBytes(with(series(254), 0))), show(with(full, 1, 1), true)},
		{"255 bytes", show(impl.CobsBytes(series(255))), show(with(full, 2, 255), true)},
		{"255 bytes and 0", show(impl.CobsBytes(with(series(255), 0))), show(with(full, 2, 255, 1), true)},
		{"254 bytes come back", show(impl.UncobsBytes(full)), show(series(254), true)},
		{"254 bytes with an empty block", show(impl.UncobsBytes(with(full, 1))), noList},
		{"254 bytes and 0 come back", show(impl.UncobsBytes(with(full, 1, 1))), show(with(series(254), 0), true)},
		{"254 bytes behind 0 with an empty block", show(impl.UncobsBytes(append([]int64{1}, with(full, 1)...))), noList},
		{"a full block that is too short", show(impl.UncobsBytes(full[:254])), noList},
		{"254 bytes in a block of one less", show(impl.UncobsBytes(append([]int64{254}, series(253)...))), show(series(253), true)},
		{"255 bytes come back", show(impl.UncobsBytes(with(full, 2, 255))), show(series(255), true)},
	})
}

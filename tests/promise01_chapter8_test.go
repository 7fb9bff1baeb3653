package tests

import (
	"fmt"
	"math"
	"strings"
	"testing"
	"unsafe"

	"loop.example/g01142/impl"
)

var chapter8 = map[string]any{
	"BlockInterleave":   impl.BlockInterleave,
	"BlockDeinterleave": impl.BlockDeinterleave,
	"PlaceBehind":       impl.PlaceBehind,
	"MostInRow":         impl.MostInRow,
	"LeastApart":        impl.LeastApart,
	"SlideInterleave":   impl.SlideInterleave,
	"SlideDeinterleave": impl.SlideDeinterleave,
	"SlideDelay":        impl.SlideDelay,
	"IsCheck":           impl.IsCheck,
	"CheckBits":         impl.CheckBits,
	"AddCheck":          impl.AddCheck,
	"HasCheck":          impl.HasCheck,
	"CheckOrder":        impl.CheckOrder,
	"CountMissed":       impl.CountMissed,
	"LeastMissed":       impl.LeastMissed,
	"ShortestMissed":    impl.ShortestMissed,
}

var chapter8Numbers = []int64{
	math.MinInt64, math.MinInt64 + 1, -20, -1, 0, 1, 2, 3, 4, 5, 11, 12, 20, 21, 32, 33, 399, 400, 401,
	1 << 16, 1<<17 - 1, 1 << 17, math.MaxInt64 - 1, math.MaxInt64,
}

var chapter8Texts = []string{
	"", "0", "1", "01", "110", "0110", "1101001", "012", "0\xff", "011010011", strings.Repeat("01", 10), strings.Repeat("110", 20),
	strings.Repeat("0", 399), strings.Repeat("01", 200), strings.Repeat("1", 384), strings.Repeat("1", 401), strings.Repeat("01", 5000),
}

func TestPromise1Chapter8(t *testing.T) {
	checkChapter(t, chapter8, poolsOf(pooled(chapter8Texts), pooled(chapter8Numbers)))
}

// Blocks, branches and checks of one call leave nothing to the next one, whatever has been called before it.
func TestPromise1ChecksAreNotKept(t *testing.T) {
	calls := func() string {
		return strings.Join([]string{
			show(impl.BlockInterleave(2, 3, "011010")), show(impl.BlockDeinterleave(2, 3, "001110")), show(impl.PlaceBehind(2, 3, 1)),
			show(impl.MostInRow(2, 3, 3)), show(impl.LeastApart(2, 3, 2)),
			show(impl.SlideInterleave(2, 1, "110111")), show(impl.SlideDeinterleave(2, 1, "100111")), show(impl.SlideDelay(3, 2)),
			show(impl.CheckBits(11, "1101")), show(impl.AddCheck(11, "1101")), show(impl.HasCheck(11, "1101001")), show(impl.CheckOrder(11)),
			show(impl.CountMissed(11, 7, 3)), show(impl.LeastMissed(11, 7)), show(impl.ShortestMissed(11)),
		}, "; ")
	}
	first := calls()
	for _, bits := range chapter8Texts {
		for _, n := range chapter8Numbers {
			impl.BlockInterleave(n, 20, bits)
			impl.SlideInterleave(n, 2, bits)
			impl.AddCheck(n, bits)
			impl.HasCheck(n, bits)
			impl.CheckOrder(n)
			impl.LeastMissed(n, 5)
			impl.CountMissed(12, n, 2)
			impl.LeastApart(3, n, 7)
			if again := calls(); again != first {
				t.Fatalf("behind %s %d: got %s, and first %s", bits, n, again, first)
			}
		}
	}
}

// Checks that divide at the same time have nothing to do with each other.
func TestPromise1ChecksAtTheSameTime(t *testing.T) {
	for p := int64(2); p < 42; p++ {
		t.Run(fmt.Sprint(p), func(t *testing.T) {
			t.Parallel()
			for length := range 200 {
				checkDividing(t, p, strings.Repeat("1101", 50)[:length])
				checkSlide(t, int(p)%20+1, length%20+1, strings.Repeat("10110", 40)[:length])
			}
		})
	}
}

// shareMemory reports whether two texts of at least two bytes have a byte in common.
func shareMemory(a, b string) bool {
	first, second := uintptr(unsafe.Pointer(unsafe.StringData(a))), uintptr(unsafe.Pointer(unsafe.StringData(b)))
	return first < second+uintptr(len(b)) && second < first+uintptr(len(a))
}

// Texts that are returned are neither their arguments nor parts of them, even where they are equal.
func TestPromise1ResultsOfChecksShareNoMemory(t *testing.T) {
	for _, sides := range [][2]int64{{1, 2}, {2, 1}, {1, 20}, {20, 1}, {15, 20}, {20, 20}} {
		rows, columns := sides[0], sides[1]
		bits := strings.Repeat("01", 200)[:rows*columns]
		for name, get := range map[string]func() (string, bool){
			"BlockInterleave":   func() (string, bool) { return impl.BlockInterleave(rows, columns, bits) },
			"BlockDeinterleave": func() (string, bool) { return impl.BlockDeinterleave(rows, columns, bits) },
			"SlideInterleave":   func() (string, bool) { return impl.SlideInterleave(1, 1, bits) },
			"SlideDeinterleave": func() (string, bool) { return impl.SlideDeinterleave(1, 1, bits) },
			"CheckBits":         func() (string, bool) { return impl.CheckBits(285, bits) },
			"AddCheck":          func() (string, bool) { return impl.AddCheck(285, bits) },
		} {
			first, ok := get()
			second, _ := get()
			if ok && (shareMemory(first, bits) || shareMemory(first, second)) {
				t.Errorf("%s of %s shares memory: %s and %s", name, bits, first, second)
			}
		}
	}
}

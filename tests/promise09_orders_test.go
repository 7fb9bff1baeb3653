package tests

import (
	"fmt"
	"math/rand"
	"strings"
	"testing"

	"loop.example/g01142/impl"
)

// remainderOf returns the remainder of a polynomial divided by another one.
func remainderOf(a, b int64) int64 {
	for degree := degreeOf(b); a > 0 && degreeOf(a) >= degree; {
		a ^= b << (degreeOf(a) - degree)
	}
	return a
}

// quotientOf returns a divided by b, which divides it.
func quotientOf(a, b int64) int64 {
	var quotient int64
	for degree := degreeOf(b); a > 0; {
		quotient ^= 1 << (degreeOf(a) - degree)
		a ^= b << (degreeOf(a) - degree)
	}
	return quotient
}

// factorsOf returns the irreducible factors of a polynomial, and how often it has each of them.
func factorsOf(p int64) map[int64]int {
	factors := map[int64]int{}
	for f := int64(2); p > 1; f++ {
		if 2*degreeOf(f) > degreeOf(p) {
			// Without a factor of half its degree or less, it is irreducible.
			f = p
		}
		for p > 1 && remainderOf(p, f) == 0 {
			factors[f]++
			p = quotientOf(p, f)
		}
	}
	return factors
}

// powerOfX returns the remainder of x to the power of n, by squares.
func powerOfX(n, p int64) int64 {
	power := remainderOf(1, p)
	for bit := 20; bit >= 0; bit-- {
		power = remainderOf(productOf(power, power), p)
		if n>>bit&1 == 1 {
			power = remainderOf(power<<1, p)
		}
	}
	return power
}

func greatestCommon(a, b int64) int64 {
	for b > 0 {
		a, b = b, a%b
	}
	return a
}

// orderReference returns the order of x modulo an odd p from the factors of p: that of
// an irreducible factor divides the number of its remainders other than 0, and for
// several times the same factor, it is doubled until it is as often a factor as in p.
func orderReference(p int64) int64 {
	order := int64(1)
	for f, times := range factorsOf(p) {
		own, others := int64(1), int64(1)<<degreeOf(f)-1
		for others%own != 0 || powerOfX(own, f) != 1 {
			own++
		}
		for reached := 1; reached < times; reached *= 2 {
			own *= 2
		}
		order *= own / greatestCommon(order, own)
	}
	return order
}

func checkOrder(t *testing.T, p int64) {
	t.Helper()
	want := noNumber
	if p%2 == 1 {
		want = show(orderReference(p), true)
	}
	expect(t, []row{{fmt.Sprint("CheckOrder ", p), show(impl.CheckOrder(p)), want}})
}

func TestPromise9OrdersOfSmallChecks(t *testing.T) {
	for p := int64(2); p < 1<<11; p++ {
		checkOrder(t, p)
	}
}

func TestPromise9OrdersOfLargeChecks(t *testing.T) {
	source := rand.New(rand.NewSource(161))
	for _, p := range sampleChecks(source) {
		checkOrder(t, p)
	}
	for degree := 11; degree <= 16; degree++ {
		for range 60 {
			checkOrder(t, int64(1)<<degree+source.Int63n(1<<degree)|1)
		}
	}
}

// x to the power of n, plus 1, is a multiple of a check just if n is a multiple of its order.
func TestPromise9PowersComeBack(t *testing.T) {
	source := rand.New(rand.NewSource(162))
	short := 0
	for _, p := range append(sampleChecks(source), 5, 7, 9, 17, 19, 21, 25, 31, 51, 67, 73, 85, 127, 137, 255, 257, 273, 341) {
		order, ok := impl.CheckOrder(p)
		for n := int64(1); n < 400; n++ {
			bits := "1" + strings.Repeat("0", int(n-1)) + "1"
			want := ok && n%order == 0
			if impl.HasCheck(p, bits) != want {
				t.Errorf("the order of %d is %d %v, and HasCheck of the power %d is not %v", p, order, ok, n, want)
			}
			if want {
				short++
			}
		}
	}
	if short < 1000 {
		t.Errorf("only %d powers came back", short)
	}
}

// The order is at most as long as there are remainders that are not 0; these checks have it.
func TestPromise9LongestOrders(t *testing.T) {
	for degree, p := range []int64{
		0, 3, 7, 11, 19, 37, 67, 137, 285, 529, 1033, 2053, 4179, 8219, 17475, 32771, 69643,
	} {
		if degree > 0 {
			expect(t, []row{{fmt.Sprint("CheckOrder ", p), show(impl.CheckOrder(p)), show(int64(1)<<degree-1, true)}})
		}
	}
	for p := int64(3); p < 1<<17; p += 64 {
		if order, ok := impl.CheckOrder(p | 1); !ok || order < 1 || order >= 1<<degreeOf(p|1) {
			t.Errorf("CheckOrder %d: got %d %v", p|1, order, ok)
		}
	}
}

// A sum of two powers comes back as soon as the greater one is 1 again, and a sum of all powers with one power more.
func TestPromise9ShortOrders(t *testing.T) {
	for degree := int64(1); degree <= 16; degree++ {
		two := int64(1)<<degree + 1
		expect(t, []row{{fmt.Sprint("CheckOrder of two powers ", two), show(impl.CheckOrder(two)), show(degree, true)}})
	}
	for degree := int64(2); degree <= 16; degree++ {
		all := int64(1)<<(degree+1) - 1
		expect(t, []row{{fmt.Sprint("CheckOrder of all powers ", all), show(impl.CheckOrder(all)), show(degree+1, true)}})
	}
}

func TestPromise9OrderExamples(t *testing.T) {
	expect(t, []row{
		{"11", show(impl.CheckOrder(11)), "7 true"},
		{"13", show(impl.CheckOrder(13)), "7 true"},
		{"3", show(impl.CheckOrder(3)), "1 true"},
		{"5, the square of 3", show(impl.CheckOrder(5)), "2 true"},
		{"15, the cube of 3", show(impl.CheckOrder(15)), "4 true"},
		{"17, the power 4 of 3", show(impl.CheckOrder(17)), "4 true"},
		{"7", show(impl.CheckOrder(7)), "3 true"},
		{"31", show(impl.CheckOrder(31)), "5 true"},
		{"21, the square of 7", show(impl.CheckOrder(21)), "6 true"},
		{"285", show(impl.CheckOrder(285)), "255 true"},
		{"283, with a short order", show(impl.CheckOrder(283)), "51 true"},
		{"0x11021", show(impl.CheckOrder(0x11021)), "32767 true"},
		{"0x18005", show(impl.CheckOrder(0x18005)), "32767 true"},
		{"the greatest order", show(impl.CheckOrder(69643)), "65535 true"},
		{"the greatest check", show(impl.CheckOrder(131071)), "17 true"},
		{"2 to the power of 16, plus 1", show(impl.CheckOrder(65537)), "16 true"},
		{"2", show(impl.CheckOrder(2)), noNumber},
		{"4", show(impl.CheckOrder(4)), noNumber},
		{"12", show(impl.CheckOrder(12)), noNumber},
		{"22", show(impl.CheckOrder(22)), noNumber},
		{"2 to the power of 16", show(impl.CheckOrder(65536)), noNumber},
		{"the greatest check without a bit 0", show(impl.CheckOrder(131070)), noNumber},
		{"1", show(impl.CheckOrder(1)), noNumber},
		{"2 to the power of 17, plus 1", show(impl.CheckOrder(131073)), noNumber},
	})
}

func TestPromise9OrdersThatFail(t *testing.T) {
	for p := int64(0); p < 1<<17; p += 2 {
		if order, ok := impl.CheckOrder(p); order != 0 || ok {
			t.Errorf("CheckOrder %d: got %d %v", p, order, ok)
		}
	}
	for _, p := range notChecks {
		expect(t, []row{{fmt.Sprint("CheckOrder ", p), show(impl.CheckOrder(p)), noNumber}})
	}
}

package tests

import (
	"fmt"
	"math"
	"math/rand"
	"strconv"
	"strings"
	"testing"

	"loop.example/g01142/impl"
)

// notChecks are numbers that are no polynomials to check with.
var notChecks = []int64{
	1, 0, -1, -2, -3, -11, 1 << 17, 1<<17 + 1, 1<<17 + 3, 1<<18 - 1, 1 << 20, 1 << 32, 1<<32 + 1, 1<<32 + 2, 1<<32 + 11, -1<<32 + 11,
	math.MinInt64, math.MinInt64 + 1, math.MinInt64 + 2, math.MinInt64 + 11, math.MaxInt64 - 1, math.MaxInt64,
}

// coefficients returns a polynomial as a text, the greatest power first.
func coefficients(p int64) string { return strconv.FormatInt(p, 2) }

func degreeOf(p int64) int { return len(coefficients(p)) - 1 }

// divideReference divides a polynomial by another one on paper, one coefficient after the other, and returns the remainder, as many as the degree.
func divideReference(bits string, p int64) string {
	divisor := coefficients(p)
	degree := len(divisor) - 1
	rest := []byte(strings.Repeat("0", degree) + bits)
	for at := range len(bits) {
		if rest[at] == '0' {
			continue
		}
		for i := range divisor {
			rest[at+i] = '0' + (rest[at+i] ^ divisor[i])
		}
	}
	return string(rest[len(bits):])
}

func isMultipleReference(bits string, p int64) bool {
	return !strings.Contains(divideReference(bits, p), "1")
}

// productOf returns the product of two polynomials.
func productOf(a, b int64) int64 {
	var product int64
	for i := range 63 {
		if b>>i&1 == 1 {
			product ^= a << i
		}
	}
	return product
}

// sampleChecks returns checks of all degrees, with the least and the greatest one of each, and with and without factors x.
func sampleChecks(source *rand.Rand) []int64 {
	checks := []int64{2, 3, 4, 5, 6, 7, 8, 11, 12, 13, 22, 285, 0x107, 0x11021, 0x18005, 0x13d65, 1<<16 - 1, 1 << 16, 1<<16 + 1, 1<<17 - 2, 1<<17 - 1}
	for degree := 1; degree <= 16; degree++ {
		least := int64(1) << degree
		checks = append(checks, least, least+1, 2*least-1, 2*least-2)
		for range 6 {
			checks = append(checks, least+source.Int63n(least))
		}
	}
	return checks
}

func TestPromise9IsCheck(t *testing.T) {
	for p := int64(-10); p < 1<<17+10; p++ {
		if impl.IsCheck(p) != (2 <= p && p <= 131071) {
			t.Errorf("IsCheck %d: got %v", p, impl.IsCheck(p))
		}
	}
	for _, p := range notChecks {
		if impl.IsCheck(p) {
			t.Errorf("%d is a check", p)
		}
	}
}

func checkDividing(t *testing.T, p int64, bits string) {
	t.Helper()
	check := divideReference(bits+strings.Repeat("0", degreeOf(p)), p)
	framed := show(bits+check, true)
	if len(bits)+len(check) > 400 {
		framed = noText
	}
	name := fmt.Sprint(p, " ", bits)
	expect(t, []row{
		{"CheckBits " + name, show(impl.CheckBits(p, bits)), show(check, true)},
		{"AddCheck " + name, show(impl.AddCheck(p, bits)), framed},
		{"HasCheck " + name, show(impl.HasCheck(p, bits)), show(isMultipleReference(bits, p))},
	})
	if len(bits)+len(check) <= 400 {
		expect(t, []row{{"HasCheck of AddCheck " + name, show(impl.HasCheck(p, bits+check)), "true"}})
	}
}

func TestPromise9AllShortTextsAreChecked(t *testing.T) {
	for p := int64(2); p < 64; p++ {
		for _, bits := range textsUpTo(9) {
			checkDividing(t, p, bits)
		}
	}
	for _, p := range []int64{256, 257, 285, 511, 1<<16 + 1, 1<<17 - 1, 1 << 16} {
		for _, bits := range textsUpTo(11) {
			checkDividing(t, p, bits)
		}
	}
}

// lengthsOfChecked returns lengths of bits around whole bytes, around the degree, and around the most.
func lengthsOfChecked(degree int) []int {
	return []int{
		0, 1, degree - 1, degree, degree + 1, 7, 8, 9, 15, 16, 17, 23, 24, 25, 31, 32, 33, 39, 40, 41, 64, 399 - degree, 400 - degree, 401 - degree, 399, 400,
	}
}

func TestPromise9LongTextsAreChecked(t *testing.T) {
	source := rand.New(rand.NewSource(151))
	for _, p := range sampleChecks(source) {
		t.Run(fmt.Sprint(p), func(t *testing.T) {
			t.Parallel()
			own := rand.New(rand.NewSource(p))
			for _, length := range lengthsOfChecked(degreeOf(p)) {
				checkDividing(t, p, drawnBits(own, int64(length)))
				checkDividing(t, p, drawnBits(own, int64(length)))
				checkDividing(t, p, strings.Repeat("0", length))
				checkDividing(t, p, strings.Repeat("1", length))
			}
			for length := range 401 {
				checkDividing(t, p, drawnBits(own, int64(length)))
			}
		})
	}
}

// A single bit has the check of its power, however long the bits are.
func TestPromise9PowersAreChecked(t *testing.T) {
	for _, p := range []int64{2, 3, 4, 11, 12, 22, 0x11021, 0x18005, 1 << 16, 1<<17 - 1, 1<<17 - 2} {
		degree := degreeOf(p)
		power := divideReference("1", p)
		for zeros := range 400 {
			// The check is the remainder of the power that is greater by the degree.
			check := divideReference(power+strings.Repeat("0", degree), p)
			bits := "1" + strings.Repeat("0", zeros)
			expect(t, []row{
				{fmt.Sprint("CheckBits ", p, " of the power ", zeros), show(impl.CheckBits(p, bits)), show(check, true)},
				{fmt.Sprint("HasCheck ", p, " of the power ", zeros), show(impl.HasCheck(p, bits)), show(!strings.Contains(power, "1"))},
			})
			power = divideReference(power+"0", p)
		}
	}
}

// A product of a check with any polynomial is a multiple: it has no remainder, and bits 0 as its check.
func TestPromise9Multiples(t *testing.T) {
	source := rand.New(rand.NewSource(152))
	for _, p := range sampleChecks(source) {
		zeros := strings.Repeat("0", degreeOf(p))
		for _, factor := range []int64{0, 1, 2, 3, 4, 7, 1 << 40, 1<<41 - 1, source.Int63n(1 << 45), source.Int63n(1 << 20), source.Int63n(300)} {
			bits := coefficients(productOf(p, factor))
			name := fmt.Sprint(p, " ", bits)
			expect(t, []row{
				{"HasCheck " + name, show(impl.HasCheck(p, bits)), "true"},
				{"HasCheck behind zeros " + name, show(impl.HasCheck(p, "000"+bits)), "true"},
				{"HasCheck before zeros " + name, show(impl.HasCheck(p, bits+"00000")), "true"},
				{"CheckBits " + name, show(impl.CheckBits(p, bits)), show(zeros, true)},
				{"AddCheck " + name, show(impl.AddCheck(p, bits)), show(bits+zeros, true)},
			})
			// Remainders from 1 on, the greatest one of which has all coefficients, make it none.
			for _, rest := range []int64{1, 1<<degreeOf(p) - 1, 1 + source.Int63n(1<<degreeOf(p)-1)} {
				changed := coefficients(productOf(p, factor) ^ rest)
				expect(t, []row{{fmt.Sprint("HasCheck ", p, " ", changed), show(impl.HasCheck(p, changed)), "false"}})
			}
		}
	}
}

// Checks add up: the check of a sum is the sum of the checks.
func TestPromise9ChecksAddUp(t *testing.T) {
	source := rand.New(rand.NewSource(153))
	for _, p := range sampleChecks(source) {
		for _, length := range []int64{1, 5, 8, 30, 200, 400} {
			a, b := drawnBits(source, length), drawnBits(source, length)
			first, _ := impl.CheckBits(p, a)
			second, _ := impl.CheckBits(p, b)
			expect(t, []row{{fmt.Sprint(p, a, b), show(impl.CheckBits(p, differences(a, b))), show(differences(first, second), true)}})
		}
	}
}

// If x divides a check, bits whose check is 0 need not be a multiple of it.
func TestPromise9FactorsX(t *testing.T) {
	for degree := 1; degree <= 16; degree++ {
		p := int64(1) << degree
		zeros := strings.Repeat("0", degree)
		expect(t, []row{
			{fmt.Sprint("CheckBits ", p), show(impl.CheckBits(p, "1")), show(zeros, true)},
			{fmt.Sprint("AddCheck ", p), show(impl.AddCheck(p, "1")), show("1"+zeros, true)},
			{fmt.Sprint("HasCheck ", p, " with all zeros"), show(impl.HasCheck(p, "1"+zeros)), "true"},
			{fmt.Sprint("HasCheck ", p, " with one zero less"), show(impl.HasCheck(p, "1"+zeros[1:])), "false"},
			{fmt.Sprint("HasCheck ", p, " without zeros"), show(impl.HasCheck(p, "1")), "false"},
			{fmt.Sprint("HasCheck ", p, " with one at the end"), show(impl.HasCheck(p, "1"+zeros[1:]+"1")), "false"},
		})
	}
	expect(t, []row{
		{"110 before a zero less", show(impl.CheckBits(12, "110")), `"000" true`},
		{"110 is no multiple of 1100", show(impl.HasCheck(12, "110")), "false"},
		{"1100 is one", show(impl.HasCheck(12, "1100")), "true"},
		{"1011 is no multiple of 10110", show(impl.HasCheck(22, "1011")), "false"},
		{"10110 is one", show(impl.HasCheck(22, "10110")), "true"},
	})
}

func TestPromise9CheckExamples(t *testing.T) {
	zeros := strings.Repeat("0", 401)
	ones := strings.Repeat("1", 401)
	expect(t, []row{
		{"1101 by 11", show(impl.CheckBits(11, "1101")), `"001" true`},
		{"1101 with its check", show(impl.AddCheck(11, "1101")), `"1101001" true`},
		{"it has it", show(impl.HasCheck(11, "1101001")), "true"},
		{"another one", show(impl.HasCheck(11, "1101000")), "false"},
		{"no bits", show(impl.HasCheck(11, "")), "true"},
		{"no bits by 11", show(impl.CheckBits(11, "")), `"000" true`},
		{"no bits with their check", show(impl.AddCheck(11, "")), `"000" true`},
		{"bits shorter than the degree", show(impl.HasCheck(11, "00")), "true"},
		{"one bit that is shorter than the degree", show(impl.HasCheck(11, "01")), "false"},
		{"the check itself", show(impl.HasCheck(11, "1011")), "true"},
		{"the remainder of the check itself", show(impl.CheckBits(11, "1011")), `"000" true`},
		{"the parity of an even number", show(impl.CheckBits(3, "1010")), `"0" true`},
		{"the parity of an odd number", show(impl.CheckBits(3, "1011")), `"1" true`},
		{"the check 2", show(impl.CheckBits(2, "1011")), `"0" true`},
		{"the check 2 with it", show(impl.AddCheck(2, "1011")), `"10110" true`},
		{"an odd number is no multiple of x", show(impl.HasCheck(2, "1011")), "false"},
		{"the least check", show(impl.IsCheck(2)), "true"},
		{"one less", show(impl.IsCheck(1)), "false"},
		{"the greatest check", show(impl.IsCheck(131071)), "true"},
		{"one more", show(impl.IsCheck(131072)), "false"},
		{"one bit by the greatest check", show(impl.CheckBits(131071, "1")), show(ones[:16], true)},
		{"one bit by the degree 16", show(impl.CheckBits(0x11021, "1")), `"0001000000100001" true`},
		{"123456789 by 0x11021", show(impl.CheckBits(0x11021, textOfBytes("123456789"))), show(fmt.Sprintf("%016b", 0x31c3), true)},
		{"123456789 by 0x107", show(impl.CheckBits(0x107, textOfBytes("123456789"))), show(fmt.Sprintf("%08b", 0xf4), true)},
		{"zeros", show(impl.CheckBits(0x11021, zeros[:400])), show(zeros[:16], true)},
		{"384 bits and their check", show(impl.AddCheck(1<<16, zeros[:384])), show(zeros[:400], true)},
		{"385 bits and their check", show(impl.AddCheck(1<<16, zeros[:385])), noText},
		{"399 bits and a check of one", show(impl.AddCheck(3, zeros[:399])), show(zeros[:400], true)},
		{"400 bits and a check of one", show(impl.AddCheck(3, zeros[:400])), noText},
		{"the check of 400 bits", show(impl.CheckBits(3, ones[:400])), `"0" true`},
		{"the check of 401 bits", show(impl.CheckBits(3, zeros)), noText},
		{"401 bits have no check", show(impl.HasCheck(3, zeros)), "false"},
		{"400 bits have one", show(impl.HasCheck(3, ones[:400])), "true"},
		{"the check 1", show(impl.CheckBits(1, "1101")), noText},
		{"the check 2 to the power of 17", show(impl.CheckBits(1<<17, "1101")), noText},
	})
}

// textOfBytes returns the bits of the bytes of a text.
func textOfBytes(text string) string {
	var all strings.Builder
	for _, letter := range []byte(text) {
		all.WriteString(fmt.Sprintf("%08b", letter))
	}
	return all.String()
}

func TestPromise9ChecksThatFail(t *testing.T) {
	for _, p := range notChecks {
		for _, bits := range []string{"", "0", "1", "1101", "1101001", strings.Repeat("0", 384), strings.Repeat("1", 400)} {
			name := fmt.Sprint(p, " ", bits)
			expect(t, []row{
				{"CheckBits " + name, show(impl.CheckBits(p, bits)), noText},
				{"AddCheck " + name, show(impl.AddCheck(p, bits)), noText},
				{"HasCheck " + name, show(impl.HasCheck(p, bits)), "false"},
			})
		}
	}
	for _, p := range []int64{2, 3, 4, 11, 12, 256, 1 << 16, 1<<17 - 1} {
		for _, text := range append(append(withoutBits(1), withoutBits(17)...), notBits...) {
			expect(t, []row{
				{"CheckBits " + text, show(impl.CheckBits(p, text)), noText},
				{"AddCheck " + text, show(impl.AddCheck(p, text)), noText},
				{"HasCheck " + text, show(impl.HasCheck(p, text)), "false"},
				{"HasCheck before zeros " + text, show(impl.HasCheck(p, text+strings.Repeat("0", 17))), "false"},
			})
		}
	}
}

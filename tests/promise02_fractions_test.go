package tests

import (
	"fmt"
	"math"
	"math/big"
	"math/rand"
	"strings"
	"testing"

	"loop.example/g01142/impl"
)

var mostPart = big.NewInt(impl.MaxPart)

// ratOf returns f as a number of math/big.
func ratOf(f impl.Fraction) *big.Rat { return big.NewRat(f.Num, f.Den) }

// showRat returns what a function shows that returns r.
func showRat(r *big.Rat) string {
	if new(big.Int).Abs(r.Num()).Cmp(mostPart) > 0 || r.Denom().Cmp(mostPart) > 0 {
		return noFraction
	}
	return show(impl.Fraction{Num: r.Num().Int64(), Den: r.Denom().Int64()}, true)
}

// isValidReference reports whether f is a valid fraction, by math/big.
func isValidReference(f impl.Fraction) bool {
	if f.Den < 1 || f.Den > impl.MaxPart || f.Num < -impl.MaxPart || f.Num > impl.MaxPart {
		return false
	}
	r := ratOf(f)
	return r.Num().Int64() == f.Num && r.Denom().Int64() == f.Den
}

// edgeParts are numbers about which parts of fractions have their limits.
func edgeParts() []int64 {
	list := []int64{math.MinInt64, math.MaxInt64, 1000000007, 999999937, 1 << 30, 1 << 31, 1 << 32, 1 << 59, 999999999999999989}
	for _, n := range []int64{0, 1000000000, impl.MaxPart / 2, impl.MaxPart} {
		for d := int64(-3); d <= 3; d++ {
			list = append(list, n+d, -n-d)
		}
	}
	return list
}

// someFractions returns valid fractions: simple ones, those with parts at their limits, and drawn ones.
func someFractions() []impl.Fraction {
	var list []impl.Fraction
	add := func(n, d int64) {
		if f := (impl.Fraction{Num: n, Den: d}); isValidReference(f) {
			list = append(list, f)
		}
	}
	for n := int64(-4); n <= 4; n++ {
		for d := int64(1); d <= 6; d++ {
			add(n, d)
		}
	}
	parts := edgeParts()
	for _, n := range parts {
		add(n, 1)
		add(1, n)
		add(n, impl.MaxPart)
		add(impl.MaxPart, n)
		add(-n, 999999999)
	}
	draw := rand.New(rand.NewSource(1))
	for range 60 {
		add(draw.Int63n(2*impl.MaxPart+1)-impl.MaxPart, draw.Int63n(impl.MaxPart)+1)
		add(draw.Int63n(2000000)-1000000, 360360*(draw.Int63n(1000)+1))
		add(draw.Int63n(2000000)-1000000, draw.Int63n(1000)+1)
	}
	return list
}

func TestPromise2ValidFractions(t *testing.T) {
	parts := edgeParts()
	for n := int64(-12); n <= 12; n++ {
		parts = append(parts, n)
	}
	for _, n := range parts {
		for _, d := range parts {
			f := impl.Fraction{Num: n, Den: d}
			if got, want := impl.ValidFraction(f), isValidReference(f); got != want {
				t.Errorf("ValidFraction %v: got %v", f, got)
			}
		}
	}
}

func TestPromise2MakeFraction(t *testing.T) {
	parts := edgeParts()
	for n := int64(-12); n <= 12; n++ {
		parts = append(parts, n)
	}
	for _, n := range parts {
		for _, d := range parts {
			want := noFraction
			if d != 0 && max(n, -n, d, -d) <= impl.MaxPart && min(n, d) >= -impl.MaxPart {
				want = showRat(big.NewRat(n, d))
			}
			expect(t, []row{{fmt.Sprint("MakeFraction ", n, d), show(impl.MakeFraction(n, d)), want}})
		}
	}
	expect(t, []row{
		{"6 / -4", show(impl.MakeFraction(6, -4)), "{-3 2} true"},
		{"-6 / -4", show(impl.MakeFraction(-6, -4)), "{3 2} true"},
		{"0 / -7", show(impl.MakeFraction(0, -7)), "{0 1} true"},
		{"1 / 0", show(impl.MakeFraction(1, 0)), noFraction},
		{"0 / 0", show(impl.MakeFraction(0, 0)), noFraction},
	})
}

func TestPromise2FractionsAreExact(t *testing.T) {
	list := someFractions()
	for _, f := range list {
		for _, g := range list {
			a, b := ratOf(f), ratOf(g)
			quotient := noFraction
			if g.Num != 0 {
				quotient = showRat(new(big.Rat).Quo(a, b))
			}
			expect(t, []row{
				{fmt.Sprint(f, " + ", g), show(impl.AddFractions(f, g)), showRat(new(big.Rat).Add(a, b))},
				{fmt.Sprint(f, " - ", g), show(impl.SubFractions(f, g)), showRat(new(big.Rat).Sub(a, b))},
				{fmt.Sprint(f, " times ", g), show(impl.MulFractions(f, g)), showRat(new(big.Rat).Mul(a, b))},
				{fmt.Sprint(f, " / ", g), show(impl.DivFractions(f, g)), quotient},
				{fmt.Sprint("compare ", f, g), show(impl.CompareFractions(f, g)), show(a.Cmp(b), true)},
			})
		}
	}
}

func TestPromise2FractionsAtTheLimits(t *testing.T) {
	one, half := impl.Fraction{Num: 1, Den: 1}, impl.Fraction{Num: 1, Den: 2}
	sixth, third := impl.Fraction{Num: 1, Den: 6}, impl.Fraction{Num: 1, Den: 3}
	zero, greatest := impl.Fraction{Num: 0, Den: 1}, impl.Fraction{Num: impl.MaxPart, Den: 1}
	least := impl.Fraction{Num: -impl.MaxPart, Den: 1}
	small := impl.Fraction{Num: 1, Den: impl.MaxPart}
	lessOne := impl.Fraction{Num: impl.MaxPart - 1, Den: 1}
	nearOne := impl.Fraction{Num: impl.MaxPart - 1, Den: impl.MaxPart}
	expect(t, []row{
		{"1/6 + 1/3", show(impl.AddFractions(sixth, third)), "{1 2} true"},
		{"1/6 / 1/3", show(impl.DivFractions(sixth, third)), "{1 2} true"},
		{"1/2 - 1/2", show(impl.SubFractions(half, half)), "{0 1} true"},
		{"sum at the limit", show(impl.AddFractions(lessOne, one)), show(greatest, true)},
		{"sum beyond the limit", show(impl.AddFractions(greatest, one)), noFraction},
		{"difference at the limit", show(impl.SubFractions(least, zero)), show(least, true)},
		{"difference beyond the limit", show(impl.SubFractions(least, one)), noFraction},
		{"denominator at the limit", show(impl.AddFractions(small, nearOne)), "{1 1} true"},
		{"denominator beyond the limit", show(impl.MulFractions(small, half)), noFraction},
		{"large in between", show(impl.MulFractions(greatest, small)), "{1 1} true"},
		{"quotient beyond the limit", show(impl.DivFractions(greatest, small)), noFraction},
		{"quotient by the least", show(impl.DivFractions(one, least)), show(impl.Fraction{Num: -1, Den: impl.MaxPart}, true)},
		{"quotient by 0", show(impl.DivFractions(one, zero)), noFraction},
		{"0 by 0", show(impl.DivFractions(zero, zero)), noFraction},
		{"compare near ones", show(impl.CompareFractions(nearOne, one)), "-1 true"},
		{"compare least and greatest", show(impl.CompareFractions(greatest, least)), "1 true"},
	})
}

func TestPromise2InvalidFractionsFail(t *testing.T) {
	one := impl.Fraction{Num: 1, Den: 1}
	for _, f := range fractionPool {
		if isValidReference(f) {
			continue
		}
		expect(t, []row{
			{fmt.Sprint(f, " + 1"), show(impl.AddFractions(f, one)), noFraction},
			{fmt.Sprint("1 + ", f), show(impl.AddFractions(one, f)), noFraction},
			{fmt.Sprint(f, " - 1"), show(impl.SubFractions(f, one)), noFraction},
			{fmt.Sprint("1 - ", f), show(impl.SubFractions(one, f)), noFraction},
			{fmt.Sprint(f, " times 1"), show(impl.MulFractions(f, one)), noFraction},
			{fmt.Sprint("1 times ", f), show(impl.MulFractions(one, f)), noFraction},
			{fmt.Sprint(f, " / 1"), show(impl.DivFractions(f, one)), noFraction},
			{fmt.Sprint("1 / ", f), show(impl.DivFractions(one, f)), noFraction},
			{fmt.Sprint("compare with 1 ", f), show(impl.CompareFractions(f, one)), noNumber},
			{fmt.Sprint("compare 1 with ", f), show(impl.CompareFractions(one, f)), noNumber},
			{fmt.Sprint("text of ", f), show(impl.FractionText(f)), noText},
			{fmt.Sprint("sum of ", f), show(impl.SumFractions([]impl.Fraction{f})), noFraction},
			{fmt.Sprint("sum of 1 and ", f), show(impl.SumFractions([]impl.Fraction{one, f})), noFraction},
		})
	}
}

func TestPromise2SumOfFractions(t *testing.T) {
	half, third := impl.Fraction{Num: 1, Den: 2}, impl.Fraction{Num: 1, Den: 3}
	one, less := impl.Fraction{Num: 1, Den: 1}, impl.Fraction{Num: -1, Den: 1}
	greatest, least := impl.Fraction{Num: impl.MaxPart, Den: 1}, impl.Fraction{Num: -impl.MaxPart, Den: 1}
	harmonic := make([]impl.Fraction, 0, 40)
	exact := new(big.Rat)
	for d := int64(1); d <= 40; d++ {
		harmonic = append(harmonic, impl.Fraction{Num: 1, Den: d})
		exact.Add(exact, big.NewRat(1, d))
		expect(t, []row{{fmt.Sprint("harmonic sum ", d), show(impl.SumFractions(harmonic)), showRat(exact)}})
	}
	expect(t, []row{
		{"no fractions", show(impl.SumFractions(nil)), "{0 1} true"},
		{"an empty list", show(impl.SumFractions([]impl.Fraction{})), "{0 1} true"},
		{"one", show(impl.SumFractions([]impl.Fraction{third})), "{1 3} true"},
		{"several", show(impl.SumFractions([]impl.Fraction{half, third, less})), "{-1 6} true"},
		{"64", show(impl.SumFractions(repeated(half, 64))), "{32 1} true"},
		{"65", show(impl.SumFractions(repeated(half, 65))), noFraction},
		{"65 times 0", show(impl.SumFractions(repeated(impl.Fraction{Num: 0, Den: 1}, 65))), noFraction},
		{"not valid in between", show(impl.SumFractions([]impl.Fraction{greatest, one, less})), noFraction},
		{"the same in another order", show(impl.SumFractions([]impl.Fraction{greatest, less, one})), show(greatest, true)},
		{"both limits", show(impl.SumFractions([]impl.Fraction{greatest, least, least})), show(least, true)},
	})
}

func TestPromise2FractionTexts(t *testing.T) {
	for _, f := range someFractions() {
		text := ratOf(f).RatString()
		expect(t, []row{
			{"FractionText " + text, show(impl.FractionText(f)), show(text, true)},
			{"ReadFraction " + text, show(impl.ReadFraction(text)), show(f, true)},
		})
	}
	for _, s := range []string{
		"", "/", "1/", "/2", "2/4", "3/1", "-3/1", "0/1", "0/2", "0/0", "1/0", "1/-2", "-1/-2", "-0", "-0/1", "--1", "+1", "+1/2", "1/+2",
		"01", "00", "007", "01/2", "1/02", "03/8", "3/08", " 1/2", "1/2 ", "1 /2", "1/ 2", "1/2/3", "1//2", "1/2/", "1.5", "a", "1/a", "a/2",
		"none", "1/2\n", "\x00", "1/2\x00", "\xff",
		"1000000000000000001", "-1000000000000000001", "1/1000000000000000001", "1000000000000000001/2", "3/1000000000000000001",
		"9223372036854775808", "1/9223372036854775808", "1/18446744073709551617", strings.Repeat("9", 100000), strings.Repeat("1/", 50000),
	} {
		expect(t, []row{{fmt.Sprintf("ReadFraction %.40q", s), show(impl.ReadFraction(s)), noFraction}})
	}
	expect(t, []row{
		{"a whole number at the limit", show(impl.ReadFraction("1000000000000000000")), show(impl.Fraction{Num: impl.MaxPart, Den: 1}, true)},
		{"the least whole number", show(impl.ReadFraction("-1000000000000000000")), show(impl.Fraction{Num: -impl.MaxPart, Den: 1}, true)},
		{"the greatest denominator", show(impl.ReadFraction("-1/1000000000000000000")), show(impl.Fraction{Num: -1, Den: impl.MaxPart}, true)},
		{"3/8", show(impl.ReadFraction("3/8")), "{3 8} true"},
		{"0", show(impl.ReadFraction("0")), "{0 1} true"},
	})
}

func TestPromise2Binomials(t *testing.T) {
	for n := int64(0); n <= impl.MaxChoose; n++ {
		for k := int64(0); k <= n; k++ {
			want := show(new(big.Int).Binomial(n, k), true)
			expect(t, []row{{fmt.Sprint("BinomialOf ", n, k), show(impl.BinomialOf(n, k)), want}})
		}
		for _, k := range []int64{-1, n + 1, math.MinInt64, math.MaxInt64} {
			expect(t, []row{{fmt.Sprint("BinomialOf ", n, k), show(impl.BinomialOf(n, k)), noNumber}})
		}
	}
	for _, n := range []int64{-1, 61, 62, math.MinInt64, math.MaxInt64} {
		for _, k := range []int64{-1, 0, 1, n} {
			expect(t, []row{{fmt.Sprint("BinomialOf ", n, k), show(impl.BinomialOf(n, k)), noNumber}})
		}
	}
}

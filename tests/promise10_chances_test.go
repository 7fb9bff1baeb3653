package tests

import (
	"fmt"
	"math"
	"math/big"
	"testing"

	"loop.example/g01142/impl"
)

// notStations are numbers of which there cannot be so many stations.
var notStations = []int64{
	0, -1, -2, -11, -12, 13, 14, 24, 100, 1 << 32, 1<<32 + 1, 1<<32 + 12, -1<<32 + 2,
	math.MinInt64, math.MinInt64 + 1, math.MinInt64 + 2, math.MinInt64 + 12, math.MaxInt64 - 1, math.MaxInt64,
}

// notChances are no fractions from 0 to 1.
var notChances = []impl.Fraction{
	{}, {Num: 0, Den: 2}, {Num: 1, Den: 0}, {Num: 2, Den: 4}, {Num: 2, Den: 2}, {Num: 1, Den: -2}, {Num: -1, Den: -2}, {Num: 0, Den: -1},
	{Num: -1, Den: 2}, {Num: -1, Den: 1}, {Num: -1, Den: impl.MaxPart}, {Num: -impl.MaxPart, Den: 1}, {Num: 1 - impl.MaxPart, Den: impl.MaxPart},
	{Num: 3, Den: 2}, {Num: 2, Den: 1}, {Num: impl.MaxPart, Den: 1}, {Num: impl.MaxPart, Den: impl.MaxPart - 1}, {Num: 13, Den: 12},
	{Num: impl.MaxPart, Den: impl.MaxPart}, {Num: 1, Den: impl.MaxPart + 1}, {Num: impl.MaxPart + 1, Den: impl.MaxPart},
	{Num: math.MinInt64, Den: 1}, {Num: math.MaxInt64, Den: 1}, {Num: 1, Den: math.MinInt64}, {Num: 1, Den: math.MaxInt64},
	{Num: 0, Den: math.MinInt64}, {Num: 0, Den: math.MaxInt64}, {Num: math.MinInt64, Den: math.MinInt64}, {Num: math.MaxInt64, Den: math.MaxInt64},
	{Num: math.MinInt64, Den: math.MaxInt64}, {Num: math.MaxInt64, Den: math.MinInt64}, {Num: math.MinInt64, Den: 0}, {Num: math.MaxInt64, Den: 2},
}

// chanceReference returns the chance that just so many of some stations send: each set of so many does with the same chance.
func chanceReference(stations, senders int64, p impl.Fraction) *big.Rat {
	chance := new(big.Rat).SetInt(new(big.Int).Binomial(stations, senders))
	silence := new(big.Rat).Sub(big.NewRat(1, 1), ratOf(p))
	for n := range stations {
		if n < senders {
			chance.Mul(chance, ratOf(p))
		} else {
			chance.Mul(chance, silence)
		}
	}
	return chance
}

func checkChances(t *testing.T, stations int64, p impl.Fraction) {
	t.Helper()
	name := fmt.Sprint(stations, " ", p)
	expect(t, []row{
		{"QuietChance " + name, show(impl.QuietChance(stations, p)), showRat(chanceReference(stations, 0, p))},
		{"SuccessChance " + name, show(impl.SuccessChance(stations, p)), showRat(chanceReference(stations, 1, p))},
	})
}

// eachFraction calls a function for all fractions from 0 to 1 with a denominator, in lowest terms.
func eachFraction(den int64, check func(p impl.Fraction)) {
	for num := range den + 1 {
		if p := (impl.Fraction{Num: num, Den: den}); isValidReference(p) {
			check(p)
		}
	}
}

func TestPromise10ChancesOfSmallFractions(t *testing.T) {
	for stations := int64(1); stations <= 12; stations++ {
		for den := int64(1); den <= 60; den++ {
			eachFraction(den, func(p impl.Fraction) { checkChances(t, stations, p) })
		}
	}
}

// rootOf returns the greatest number whose power with an exponent is at most n.
func rootOf(n *big.Int, exponent int64) int64 {
	least, most := int64(1), int64(math.MaxInt64)
	for least < most {
		middle := least + (most-least)/2 + (most-least)%2
		if new(big.Int).Exp(big.NewInt(middle), big.NewInt(exponent), nil).Cmp(n) > 0 {
			most = middle - 1
		} else {
			least = middle
		}
	}
	return least
}

// edgeDenominators are denominators around those whose powers are the greatest ones of valid fractions, times what stations can have in common with them.
func edgeDenominators(stations int64) []int64 {
	var list []int64
	for times := int64(1); times <= 12; times++ {
		root := rootOf(new(big.Int).Mul(mostPart, big.NewInt(times)), stations)
		for den := root - 13; den <= root+13; den++ {
			if 1 <= den && den <= impl.MaxPart {
				list = append(list, den)
			}
		}
	}
	return list
}

// Powers that are just valid fractions, and those that just are not.
func TestPromise10ChancesAtTheirLimit(t *testing.T) {
	var quiet, success, none int
	for stations := int64(1); stations <= 12; stations++ {
		for _, den := range edgeDenominators(stations) {
			for _, num := range []int64{1, 2, 3, 5, 7, den / 12, den / 3, den / 2, den/2 + 1, den - 11, den - 5, den - 2, den - 1} {
				p := impl.Fraction{Num: num, Den: den}
				if num < 1 || !isValidReference(p) {
					continue
				}
				checkChances(t, stations, p)
				_, isQuiet := impl.QuietChance(stations, p)
				_, isSuccess := impl.SuccessChance(stations, p)
				switch {
				case isQuiet:
					quiet++
				case isSuccess:
					success++
				default:
					none++
				}
			}
		}
	}
	if quiet < 300 || success < 100 || none < 300 {
		t.Errorf("only %d chances are both valid, %d only that of success, and %d neither", quiet, success, none)
	}
}

// eachChoice calls a function for all ways in which stations can choose one of some slots each.
func eachChoice(stations, window int, check func(choice []int)) {
	choice := make([]int, stations)
	for {
		check(choice)
		last := stations - 1
		for last >= 0 && choice[last] == window-1 {
			choice[last] = 0
			last--
		}
		if last < 0 {
			return
		}
		choice[last]++
	}
}

// Each station draws one of as many numbers as the denominator, and sends if it is one of the first ones.
func TestPromise10ChancesOfDrawnNumbers(t *testing.T) {
	for stations := 1; stations <= 12; stations++ {
		for den := 1; den <= 16 && math.Pow(float64(den), float64(stations)) <= 70000; den++ {
			eachFraction(int64(den), func(p impl.Fraction) {
				var counts [13]int64
				var all int64
				eachChoice(stations, den, func(choice []int) {
					senders := 0
					for _, drawn := range choice {
						if int64(drawn) < p.Num {
							senders++
						}
					}
					counts[senders]++
					all++
				})
				expect(t, []row{
					{fmt.Sprint("QuietChance ", stations, p), show(impl.QuietChance(int64(stations), p)), showRat(big.NewRat(counts[0], all))},
					{fmt.Sprint("SuccessChance ", stations, p), show(impl.SuccessChance(int64(stations), p)), showRat(big.NewRat(counts[1], all))},
				})
			})
		}
	}
}

// The chances that none sends, that just one does, and that several do add up to 1.
func TestPromise10ChancesAddUp(t *testing.T) {
	for stations := int64(1); stations <= 12; stations++ {
		for den := int64(1); den <= 31; den++ {
			eachFraction(den, func(p impl.Fraction) {
				quiet, isQuiet := impl.QuietChance(stations, p)
				success, isSuccess := impl.SuccessChance(stations, p)
				sum := new(big.Rat).Add(ratOf(quiet), ratOf(success))
				for senders := int64(2); senders <= stations; senders++ {
					sum.Add(sum, chanceReference(stations, senders, p))
				}
				if !isQuiet || !isSuccess || sum.Cmp(big.NewRat(1, 1)) != 0 {
					t.Errorf("%d stations, %v: %v %v and %v %v make a sum of %v", stations, p, quiet, isQuiet, success, isSuccess, sum)
				}
			})
		}
	}
}

// No other chance has a greater chance of success, nor as great a one.
func TestPromise10BestChanceIsBest(t *testing.T) {
	for stations := int64(1); stations <= 12; stations++ {
		best, ok := impl.BestChance(stations)
		expect(t, []row{{fmt.Sprint("BestChance ", stations), show(best, ok), show(impl.Fraction{Num: 1, Den: stations}, true)}})
		greatest, _ := impl.SuccessChance(stations, best)
		for den := int64(1); den <= 31; den++ {
			eachFraction(den, func(p impl.Fraction) {
				chance, ok := impl.SuccessChance(stations, p)
				if order, isKnown := impl.CompareFractions(chance, greatest); !ok || !isKnown || order > 0 || order == 0 && p != best {
					t.Errorf("%d stations: %v has the chance %v %v, and the best one, %v, has %v", stations, p, chance, ok, best, greatest)
				}
			})
		}
		for _, near := range []impl.Fraction{{Num: 1, Den: 10000}, {Num: -1, Den: 10000}} {
			p := new(big.Rat).Add(ratOf(best), ratOf(near))
			other := impl.Fraction{Num: p.Num().Int64(), Den: p.Denom().Int64()}
			if other.Num > other.Den {
				continue
			}
			if chanceReference(stations, 1, other).Cmp(ratOf(greatest)) >= 0 {
				t.Errorf("%d stations: %v is not worse than %v", stations, other, best)
			}
		}
	}
}

func TestPromise10ChanceExamples(t *testing.T) {
	part := func(num, den int64) impl.Fraction { return impl.Fraction{Num: num, Den: den} }
	expect(t, []row{
		{"success of 2", show(impl.SuccessChance(2, part(1, 2))), "{1 2} true"},
		{"quiet 2", show(impl.QuietChance(2, part(1, 2))), "{1 4} true"},
		{"success of 1", show(impl.SuccessChance(1, part(3, 7))), "{3 7} true"},
		{"quiet 1", show(impl.QuietChance(1, part(3, 7))), "{4 7} true"},
		{"success of 12", show(impl.SuccessChance(12, part(1, 12))), "{285311670611 743008370688} true"},
		{"quiet 12", show(impl.QuietChance(12, part(1, 2))), "{1 4096} true"},
		{"success of 12 by coins", show(impl.SuccessChance(12, part(1, 2))), "{3 1024} true"},
		{"nobody ever sends, success", show(impl.SuccessChance(12, part(0, 1))), "{0 1} true"},
		{"nobody ever sends, quiet", show(impl.QuietChance(12, part(0, 1))), "{1 1} true"},
		{"nobody of one ever sends, success", show(impl.SuccessChance(1, part(0, 1))), "{0 1} true"},
		{"nobody of one ever sends, quiet", show(impl.QuietChance(1, part(0, 1))), "{1 1} true"},
		{"all send, success", show(impl.SuccessChance(12, part(1, 1))), "{0 1} true"},
		{"all send, quiet", show(impl.QuietChance(12, part(1, 1))), "{0 1} true"},
		{"one sends, success", show(impl.SuccessChance(1, part(1, 1))), "{1 1} true"},
		{"one sends, quiet", show(impl.QuietChance(1, part(1, 1))), "{0 1} true"},
		{"two send, success", show(impl.SuccessChance(2, part(1, 1))), "{0 1} true"},
		{"the greatest denominator, quiet", show(impl.QuietChance(1, part(1, impl.MaxPart))), "{999999999999999999 1000000000000000000} true"},
		{"the greatest denominator, success", show(impl.SuccessChance(1, part(1, impl.MaxPart))), "{1 1000000000000000000} true"},
		{"the greatest numerator, success", show(impl.SuccessChance(1, part(impl.MaxPart-1, impl.MaxPart))), "{999999999999999999 1000000000000000000} true"},
		{"the greatest denominator of two, quiet", show(impl.QuietChance(2, part(1, impl.MaxPart))), noFraction},
		{"the greatest denominator of two, success", show(impl.SuccessChance(2, part(1, impl.MaxPart))), noFraction},
		{"the greatest numerator of two, success", show(impl.SuccessChance(2, part(impl.MaxPart-1, impl.MaxPart))), noFraction},
		{"the square of a just valid one", show(impl.QuietChance(2, part(1, 1000000000))), "{999999998000000001 1000000000000000000} true"},
		{"the square of one more", show(impl.QuietChance(2, part(1, 1000000001))), noFraction},
		{"success by one more", show(impl.SuccessChance(2, part(1, 1000000001))), noFraction},
		{"success by two more", show(impl.SuccessChance(2, part(1, 1000000002))), "{1000000001 500000002000000002} true"},
		{"success by half of a square", show(impl.SuccessChance(2, part(1, 1414213562))), "{1414213561 999999999472363922} true"},
		{"success by half of a square that is too great", show(impl.SuccessChance(2, part(1, 1414213564))), noFraction},
		{"6 stations at the limit", show(impl.QuietChance(6, part(999, 1000))), "{1 1000000000000000000} true"},
		{"6 stations behind it", show(impl.QuietChance(6, part(1000, 1001))), noFraction},
		{"12 stations at the limit", show(impl.QuietChance(12, part(30, 31))), "{1 787662783788549761} true"},
		{"12 stations behind it", show(impl.QuietChance(12, part(31, 32))), noFraction},
		{"success of 12 stations behind it", show(impl.SuccessChance(12, part(31, 32))), "{93 288230376151711744} true"},
		{"success of 12 stations by 35", show(impl.SuccessChance(12, part(34, 35))), noFraction},
		{"success of 12 stations by 36", show(impl.SuccessChance(12, part(35, 36))), "{35 394865111526801408} true"},
		{"success of 12 stations by 38", show(impl.SuccessChance(12, part(37, 38))), noFraction},
		{"the best chance of one", show(impl.BestChance(1)), "{1 1} true"},
		{"the best chance of 12", show(impl.BestChance(12)), "{1 12} true"},
		{"the best chance of none", show(impl.BestChance(0)), noFraction},
		{"the best chance of 13", show(impl.BestChance(13)), noFraction},
		{"a chance of 3/2", show(impl.QuietChance(2, part(3, 2))), noFraction},
		{"a chance of -1/2", show(impl.SuccessChance(2, part(-1, 2))), noFraction},
	})
}

func TestPromise10ChancesThatFail(t *testing.T) {
	for _, stations := range notStations {
		for _, p := range []impl.Fraction{{Num: 0, Den: 1}, {Num: 1, Den: 2}, {Num: 1, Den: 1}, {Num: 1, Den: impl.MaxPart}} {
			expect(t, []row{
				{fmt.Sprint("QuietChance ", stations, p), show(impl.QuietChance(stations, p)), noFraction},
				{fmt.Sprint("SuccessChance ", stations, p), show(impl.SuccessChance(stations, p)), noFraction},
			})
		}
		expect(t, []row{{fmt.Sprint("BestChance ", stations), show(impl.BestChance(stations)), noFraction}})
	}
	for _, p := range notChances {
		for stations := int64(1); stations <= 12; stations++ {
			expect(t, []row{
				{fmt.Sprint("QuietChance ", stations, p), show(impl.QuietChance(stations, p)), noFraction},
				{fmt.Sprint("SuccessChance ", stations, p), show(impl.SuccessChance(stations, p)), noFraction},
			})
		}
	}
}

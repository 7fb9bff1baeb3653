package tests

import (
	"fmt"
	"math"
	"math/big"
	"math/rand"
	"testing"

	"loop.example/g01142/impl"
)

// meansByHalves returns the mean numbers of slots for 0 to 12 stations: behind the first slot,
// both sets are split, and each number of stations in them has its chance.
func meansByHalves() []*big.Rat {
	means := []*big.Rat{big.NewRat(1, 1), big.NewRat(1, 1)}
	for stations := int64(2); stations <= 12; stations++ {
		sum := big.NewRat(1, 1)
		for fewer := range stations {
			chance := chanceReference(stations, fewer, impl.Fraction{Num: 1, Den: 2})
			sum.Add(sum, chance.Mul(chance, new(big.Rat).Mul(big.NewRat(2, 1), means[fewer])))
		}
		// Both sets can have all stations again.
		again := new(big.Rat).Mul(big.NewRat(2, 1), chanceReference(stations, stations, impl.Fraction{Num: 1, Den: 2}))
		means = append(means, sum.Quo(sum, again.Sub(big.NewRat(1, 1), again)))
	}
	return means
}

// meanBySum returns the mean number of slots by a sum with changing signs.
func meanBySum(stations int64) *big.Rat {
	mean := big.NewRat(1, 1)
	for k := int64(2); k <= stations; k++ {
		term := big.NewRat((k-1)<<k, 1<<(k-1)-1)
		term.Mul(term, new(big.Rat).SetInt(new(big.Int).Binomial(stations, k)))
		if k%2 == 0 {
			mean.Add(mean, term)
		} else {
			mean.Sub(mean, term)
		}
	}
	return mean
}

func TestPromise10Means(t *testing.T) {
	for stations, mean := range meansByHalves() {
		if other := meanBySum(int64(stations)); other.Cmp(mean) != 0 {
			t.Errorf("the references of %d are %v and %v", stations, mean, other)
		}
		expect(t, []row{{fmt.Sprint("SplitMean ", stations), show(impl.SplitMean(int64(stations))), showRat(mean)}})
	}
}

// slotsUpTo returns the slots of a split of some stations by coins of a length, all of them tried: sets
// that are left when coins run out count as many slots as their mean is. The mean of all is that of the stations.
func slotsUpTo(t *testing.T, stations, length int) *big.Rat {
	texts := textsOf(int64(length))
	sum, count := big.NewRat(0, 1), int64(0)
	eachChoice(stations, len(texts), func(choice []int) {
		coins := make([]string, stations)
		for n, at := range choice {
			coins[n] = texts[at]
		}
		count++
		if sent, _, ok := impl.SplitRun(coins); ok {
			sum.Add(sum, big.NewRat(int64(len(sent)), 1))
			return
		}
		sum.Add(sum, slotsWithRest(t, counting(stations), coins))
	})
	return sum.Quo(sum, big.NewRat(count, 1))
}

// slotsWithRest returns how many slots a set of stations takes on the mean by coins that run out.
func slotsWithRest(t *testing.T, set []int64, coins []string) *big.Rat {
	if len(set) > 1 && coins[set[0]] == "" {
		mean, ok := impl.SplitMean(int64(len(set)))
		if !ok {
			t.Fatalf("SplitMean %d fails", len(set))
		}
		return ratOf(mean)
	}
	slots := big.NewRat(1, 1)
	if len(set) < 2 {
		return slots
	}
	for _, coin := range "01" {
		var part []int64
		rest := make([]string, len(coins))
		for _, n := range set {
			if coins[n][0] == byte(coin) {
				part = append(part, n)
				rest[n] = coins[n][1:]
			}
		}
		slots.Add(slots, slotsWithRest(t, part, rest))
	}
	return slots
}

func TestPromise10MeansOfAllCoins(t *testing.T) {
	for _, c := range []struct{ stations, length int }{
		{1, 3}, {2, 1}, {2, 2}, {2, 6}, {3, 1}, {3, 2}, {3, 4}, {4, 1}, {4, 2}, {4, 3}, {5, 2}, {6, 1}, {6, 2}, {8, 1}, {12, 1},
	} {
		mean, ok := impl.SplitMean(int64(c.stations))
		if got := slotsUpTo(t, c.stations, c.length); !ok || got.Cmp(ratOf(mean)) != 0 {
			t.Errorf("%d stations with %d coins take %v slots, and SplitMean is %v %v", c.stations, c.length, got, mean, ok)
		}
	}
}

// Many drawn runs take about as many slots as the mean tells.
func TestPromise10MeansOfDrawnCoins(t *testing.T) {
	const runs = 5000
	for stations := int64(1); stations <= 12; stations++ {
		source := rand.New(rand.NewSource(stations))
		var sum float64
		for range runs {
			coins := make([]string, stations)
			for n := range coins {
				coins[n] = drawnBits(source, 40)
			}
			sent, _, ok := impl.SplitRun(coins)
			if !ok {
				t.Fatalf("SplitRun %q fails", coins)
			}
			sum += float64(len(sent))
		}
		mean, _ := impl.SplitMean(stations)
		if told := float64(mean.Num) / float64(mean.Den); math.Abs(sum/runs-told) > 0.3 {
			t.Errorf("%d stations take %v slots, and the mean is %v", stations, sum/runs, told)
		}
	}
}

func TestPromise10MeanExamples(t *testing.T) {
	expect(t, []row{
		{"no station", show(impl.SplitMean(0)), "{1 1} true"},
		{"one station", show(impl.SplitMean(1)), "{1 1} true"},
		{"two stations", show(impl.SplitMean(2)), "{5 1} true"},
		{"three stations", show(impl.SplitMean(3)), "{23 3} true"},
		{"four stations", show(impl.SplitMean(4)), "{221 21} true"},
		{"11 stations", show(impl.SplitMean(11)), "{173459192111 5643118635} true"},
		{"12 stations", show(impl.SplitMean(12)), "{55486232702891 1650209120835} true"},
		{"13 stations", show(impl.SplitMean(13)), noFraction},
		{"one less than none", show(impl.SplitMean(-1)), noFraction},
	})
	for _, stations := range notStations {
		if stations != 0 {
			expect(t, []row{{fmt.Sprint("SplitMean ", stations), show(impl.SplitMean(stations)), noFraction}})
		}
	}
}

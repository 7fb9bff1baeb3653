package tests

import (
	"fmt"
	"math"
	"math/big"
	"strings"
	"testing"

	"loop.example/g01142/impl"
)

// furtherOf returns how many further bits are stuffed.
func furtherOf(s impl.Stuffer, bits string) int64 {
	return int64(len(stuffReference(s, bits)) - len(bits))
}

// stuffCounter counts strings by what they begin with: fewer bits than a full run and another one, or a full run.
type stuffCounter struct {
	after int64
	known map[[2]int64]int64
}

func (c stuffCounter) count(length, further int64) int64 {
	if length < 0 || further < 0 {
		return 0
	}
	if count, ok := c.known[[2]int64{length, further}]; ok {
		return count
	}
	count := c.count(length-c.after, further-1)
	for run := range c.after {
		count += c.count(length-run-1, further)
	}
	// All bits can be those of a run that is not full.
	if length < c.after && further == 0 {
		count++
	}
	c.known[[2]int64{length, further}] = count
	return count
}

func TestPromise5MeanStuffed(t *testing.T) {
	for _, s := range validStuffers() {
		sum := new(big.Int)
		for exponent := range s.After {
			sum.Add(sum, new(big.Int).Lsh(big.NewInt(2), uint(exponent)))
		}
		expect(t, []row{{fmt.Sprint("MeanStuffed ", s), show(impl.MeanStuffed(s)), show(impl.Fraction{Num: 1, Den: sum.Int64()}, true)}})
	}
	expect(t, []row{
		{"the document's mean", show(impl.MeanStuffed(impl.Stuffer{After: 2, Bit: 1})), "{1 6} true"},
		{"the greatest mean", show(impl.MeanStuffed(impl.Stuffer{After: 1, Bit: 0})), "{1 2} true"},
		{"the least mean", show(impl.MeanStuffed(impl.Stuffer{After: 10, Bit: 1})), "{1 2046} true"},
	})
}

// meanOf returns the mean number of further bits for all bits of a length.
func meanOf(counts []int64, length int64) float64 {
	sum := 0.0
	for further, count := range counts {
		sum += float64(further) * float64(count)
	}
	return math.Ldexp(sum, -int(length))
}

// The mean number grows by MeanStuffed with one bit more.
func TestPromise5MeanIsThatOfTheCounts(t *testing.T) {
	for _, s := range validStuffers() {
		mean, _ := impl.MeanStuffed(s)
		more, _ := impl.CountStuffed(s, 60)
		fewer, _ := impl.CountStuffed(s, 59)
		growth := meanOf(more, 60) - meanOf(fewer, 59)
		if want := float64(mean.Num) / float64(mean.Den); math.Abs(growth-want) > want/1e6 {
			t.Errorf("%v: the mean grows by %v at last, MeanStuffed is %v", s, growth, mean)
		}
	}
}

func TestPromise5MostStuffed(t *testing.T) {
	for _, s := range validStuffers() {
		for length := range int64(401) {
			bits, _ := bitsOf(s, length)
			expect(t, []row{{fmt.Sprint("MostStuffed ", s, length), show(impl.MostStuffed(s, length)), show(furtherOf(s, bits), true)}})
		}
		for _, length := range outside(400) {
			expect(t, []row{{fmt.Sprint("MostStuffed ", s, length), show(impl.MostStuffed(s, length)), noNumber}})
		}
	}
	expect(t, []row{
		{"as many as bits", show(impl.MostStuffed(impl.Stuffer{After: 1, Bit: 1}, 400)), "400 true"},
		{"a run less one", show(impl.MostStuffed(impl.Stuffer{After: 10, Bit: 0}, 399)), "39 true"},
	})
}

func TestPromise5CountsByTrying(t *testing.T) {
	texts := textsUpTo(11)
	for _, s := range validStuffers() {
		counts := make([][]int64, 12)
		for length := range counts {
			counts[length] = make([]int64, int64(length)/s.After+1)
		}
		for _, bits := range texts {
			counts[len(bits)][furtherOf(s, bits)]++
		}
		for length := range int64(12) {
			expect(t, []row{{fmt.Sprint("CountStuffed ", s, length), show(impl.CountStuffed(s, length)), show(counts[length], true)}})
		}
	}
}

func TestPromise5CountStuffed(t *testing.T) {
	for _, s := range validStuffers() {
		counter := stuffCounter{after: s.After, known: map[[2]int64]int64{}}
		for length := range int64(61) {
			counts := make([]int64, length/s.After+1)
			sum := int64(0)
			for further := range counts {
				counts[further] = counter.count(length, int64(further))
				sum += counts[further]
			}
			if sum != 1<<length {
				t.Fatalf("%v: %d strings of %d bits", s, sum, length)
			}
			expect(t, []row{{fmt.Sprint("CountStuffed ", s, length), show(impl.CountStuffed(s, length)), show(counts, true)}})
		}
		for _, length := range append(outside(60), 400, 401) {
			expect(t, []row{{fmt.Sprint("CountStuffed ", s, length), show(impl.CountStuffed(s, length)), noList}})
		}
	}
}

func TestPromise5CountsOfExamples(t *testing.T) {
	binomials := make([]string, 61)
	for k := range binomials {
		binomials[k] = new(big.Int).Binomial(60, int64(k)).String()
	}
	expect(t, []row{
		{"no bits", show(impl.CountStuffed(impl.Stuffer{After: 2, Bit: 1}, 0)), "[1] true"},
		{"too few bits", show(impl.CountStuffed(impl.Stuffer{After: 3, Bit: 1}, 2)), "[4] true"},
		{"000 to 111", show(impl.CountStuffed(impl.Stuffer{After: 2, Bit: 1}, 3)), "[5 3] true"},
		{"only 1111 has two", show(impl.CountStuffed(impl.Stuffer{After: 2, Bit: 1}, 4)), "[8 7 1] true"},
		{"each 0 of 60 bits", show(impl.CountStuffed(impl.Stuffer{After: 1, Bit: 0}, 60)), "[" + strings.Join(binomials, " ") + "] true"},
	})
}

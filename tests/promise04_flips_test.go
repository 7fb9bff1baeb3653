package tests

import (
	"fmt"
	"math"
	"math/rand"
	"testing"

	"loop.example/g01142/impl"
)

func flipText(c impl.BlockCode, start int64, data []int64, at int64) string {
	return show(impl.FlipEffect(c, start, data, at))
}

// flipReference returns how many data are wrong, and the first word with an error, or -1.
func flipReference(c impl.BlockCode, start int64, data []int64, at int) (int64, int64) {
	sent, _ := encodeReference(c, start, data)
	received, errors, _ := decodeReference(c, start, sent[:at]+invertedBits(sent[at:at+1])+sent[at+1:])
	wrong, first := int64(0), int64(-1)
	for i, n := range received {
		if n != data[i] {
			wrong++
		}
	}
	if len(errors) > 0 {
		first = errors[0]
	}
	return wrong, first
}

func TestPromise4FlipsOfAllBits(t *testing.T) {
	source := rand.New(rand.NewSource(7))
	seen := map[string]int{}
	for _, c := range sampleCodes() {
		for _, start := range []int64{-1, 1} {
			for _, count := range []int64{1, 2, 5, impl.MaxBits / c.Width} {
				data := drawnData(source, c, count)
				for at := range int(count * c.Width) {
					// Of long data, the bits at the beginning and at the end are enough.
					if at > 40 && at < int(count*c.Width)-20 {
						continue
					}
					wrong, first := flipReference(c, start, data, at)
					seen[fmt.Sprint(wrong, first >= 0)]++
					name := fmt.Sprint("FlipEffect ", c, start, data, at)
					expect(t, []row{{name, flipText(c, start, data, int64(at)), show(wrong, first, true)}})
				}
			}
		}
	}
	// A word that has not been changed is found in one of the lists, so that its data are right.
	if len(seen) != 3 || seen["0 true"] == 0 || seen["1 true"] == 0 || seen["1 false"] == 0 {
		t.Errorf("the changed bits have the effects %v", seen)
	}
}

func TestPromise4FlipsThatAreNone(t *testing.T) {
	for _, c := range madeCodes() {
		most := int64(1)<<c.Data - 1
		for _, start := range []int64{-1, 1} {
			for _, at := range outside(2*c.Width - 1) {
				expect(t, []row{{fmt.Sprint("FlipEffect ", c, start, at), flipText(c, start, []int64{0, most}, at), noPair}})
			}
			for _, n := range outside(most) {
				expect(t, []row{{fmt.Sprint("FlipEffect of the data ", n, c), flipText(c, start, []int64{0, n}, 0), noPair}})
			}
			for _, at := range []int64{-1, 0, 1, math.MaxInt64} {
				expect(t, []row{{fmt.Sprint("FlipEffect of no data ", c, at), flipText(c, start, nil, at), noPair}})
			}
			longest := int(impl.MaxBits / c.Width)
			wrong, first := flipReference(c, start, make([]int64, longest), longest*int(c.Width)-1)
			expect(t, []row{
				{fmt.Sprint("FlipEffect of the last bit ", c), flipText(c, start, make([]int64, longest), int64(longest)*c.Width-1), show(wrong, first, true)},
				{fmt.Sprint("FlipEffect behind the last bit ", c), flipText(c, start, make([]int64, longest), int64(longest)*c.Width), noPair},
				{fmt.Sprint("FlipEffect of too many data ", c), flipText(c, start, make([]int64, longest+1), 0), noPair},
			})
		}
		for _, start := range notStates {
			expect(t, []row{{fmt.Sprint("FlipEffect ", c, start), flipText(c, start, []int64{0}, 0), noPair}})
		}
	}
}

func TestPromise4FlipsOfExamples(t *testing.T) {
	pair, _ := makeReference(1, 2)
	shared := codeOf(1, 2, []string{"01", "11"}, []string{"01", "00"})
	apart := codeOf(1, 2, []string{"11", "10"}, []string{"01", "00"})
	balanced := codeOf(1, 4, []string{"0011", "1011"}, []string{"0011", "0100"})
	expect(t, []row{
		{"a word that stands nowhere", flipText(pair, -1, []int64{0, 1, 1}, 0), "1 0 true"},
		{"one word of three", flipText(pair, 1, []int64{0, 1, 1}, 3), "1 1 true"},
		{"another word of the same list, which is not seen", flipText(shared, -1, []int64{0, 0}, 0), "1 -1 true"},
		{"the error is seen at a later word", flipText(shared, -1, []int64{0, 0, 1}, 0), "1 2 true"},
		{"the later word has the error, but the right data", flipText(apart, -1, []int64{1, 0}, 1), "1 1 true"},
		{"the same data in the other list", flipText(apart, -1, []int64{0}, 0), "0 0 true"},
		{"the same data, and words with errors behind them", flipText(apart, -1, []int64{0, 0, 1}, 0), "0 0 true"},
		{"a word that changes the state does so no longer", flipText(balanced, -1, []int64{1, 1, 0}, 0), "1 1 true"},
	})
}

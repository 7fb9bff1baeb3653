package tests

import (
	"fmt"
	"math"
	"math/rand"
	"slices"
	"strings"
	"testing"

	"loop.example/g01142/impl"
)

// notStates are numbers at which no line can begin.
var notStates = []int64{0, 2, -2, 3, math.MinInt64, math.MaxInt64}

// wordsBy returns the list by which data are sent in a state.
func wordsBy(c impl.BlockCode, state int64) []string {
	return map[int64][]string{-1: c.Minus, 1: c.Plus}[state]
}

// encodeReference returns the bits of data and the state behind them; the state is the sum of the line.
func encodeReference(c impl.BlockCode, start int64, data []int64) (string, int64) {
	sent := ""
	for _, n := range data {
		sent += wordsBy(c, start+int64(disparityReference(sent)))[n]
	}
	return sent, start + int64(disparityReference(sent))
}

// decodeReference returns the data of whole words, the words with errors, and the state behind them.
func decodeReference(c impl.BlockCode, state int64, s string) ([]int64, []int64, int64) {
	var data, wrong []int64
	for i := range len(s) / int(c.Width) {
		word := s[i*int(c.Width) : (i+1)*int(c.Width)]
		n := slices.Index(wordsBy(c, state), word)
		if n < 0 {
			wrong = append(wrong, int64(i))
			n = slices.Index(wordsBy(c, -state), word)
		}
		data = append(data, int64(n))
		if disparity := disparityReference(word); disparity > 0 {
			state = 1
		} else if disparity < 0 {
			state = -1
		}
	}
	return data, wrong, state
}

func encodeText(c impl.BlockCode, start int64, data []int64) string {
	return show(impl.EncodeBlocks(c, start, data))
}

func decodeText(c impl.BlockCode, start int64, s string) string {
	return show(impl.DecodeBlocks(c, start, s))
}

// drawnData returns data of a code.
func drawnData(source *rand.Rand, c impl.BlockCode, count int64) []int64 {
	data := make([]int64, count)
	for i := range data {
		data[i] = source.Int63n(1 << c.Data)
	}
	return data
}

// drawnBits returns bits.
func drawnBits(source *rand.Rand, count int64) string {
	var all strings.Builder
	for range count {
		all.WriteByte('0' + byte(source.Intn(2)))
	}
	return all.String()
}

func checkSending(t *testing.T, c impl.BlockCode, start int64, data []int64) {
	t.Helper()
	sent, state := encodeReference(c, start, data)
	name := fmt.Sprint(c, start, data)
	expect(t, []row{
		{"EncodeBlocks " + name, encodeText(c, start, data), show(sent, state, true)},
		{"DecodeBlocks of what is sent " + name, decodeText(c, start, sent), show(data, []int64{}, state, true)},
	})
}

func TestPromise4DataComeBack(t *testing.T) {
	source := rand.New(rand.NewSource(1))
	for _, c := range sampleCodes() {
		for _, start := range []int64{-1, 1} {
			checkSending(t, c, start, nil)
			checkSending(t, c, start, []int64{})
			for n := range int64(1) << c.Data {
				checkSending(t, c, start, []int64{n})
				checkSending(t, c, start, []int64{n, n, n})
			}
			for _, count := range []int64{2, 3, 7, impl.MaxBits/c.Width - 1, impl.MaxBits / c.Width} {
				checkSending(t, c, start, drawnData(source, c, count))
			}
		}
	}
}

func TestPromise4DataOutOfRange(t *testing.T) {
	for _, c := range madeCodes() {
		most := int64(1)<<c.Data - 1
		for _, start := range []int64{-1, 1} {
			for _, n := range outside(most) {
				expect(t, []row{
					{fmt.Sprint("EncodeBlocks ", c, n), encodeText(c, start, []int64{n}), noSent},
					{fmt.Sprint("EncodeBlocks at the end ", c, n), encodeText(c, start, []int64{0, most, n}), noSent},
				})
			}
			longest := impl.MaxBits / c.Width
			sent, state := encodeReference(c, start, repeated(most, int(longest)))
			expect(t, []row{
				{fmt.Sprint("EncodeBlocks of the most data ", c), encodeText(c, start, repeated(most, int(longest))), show(sent, state, true)},
				{fmt.Sprint("EncodeBlocks of too many data ", c), encodeText(c, start, repeated(most, int(longest+1))), noSent},
				{fmt.Sprint("EncodeBlocks of far too many data ", c), encodeText(c, start, make([]int64, 10000)), noSent},
			})
		}
	}
	c, _ := makeReference(1, 2)
	expect(t, []row{
		{"400 bits", encodeText(c, 1, repeated[int64](1, 200)), show(strings.Repeat("10", 200), 1, true)},
		{"402 bits", encodeText(c, 1, repeated[int64](1, 201)), noSent},
	})
}

func TestPromise4NoStates(t *testing.T) {
	for _, c := range madeCodes() {
		word := c.Minus[0]
		for _, start := range notStates {
			expect(t, []row{
				{fmt.Sprint("EncodeBlocks, start ", start), encodeText(c, start, []int64{0}), noSent},
				{fmt.Sprint("EncodeBlocks of nothing, start ", start), encodeText(c, start, nil), noSent},
				{fmt.Sprint("DecodeBlocks, start ", start), decodeText(c, start, word), noReceived},
				{fmt.Sprint("DecodeBlocks of nothing, start ", start), decodeText(c, start, ""), noReceived},
			})
		}
	}
}

func checkReading(t *testing.T, c impl.BlockCode, s string) {
	t.Helper()
	for _, start := range []int64{-1, 1} {
		want := noReceived
		if int64(len(s))%c.Width == 0 {
			data, wrong, state := decodeReference(c, start, s)
			want = show(data, wrong, state, true)
		}
		expect(t, []row{{fmt.Sprint("DecodeBlocks ", c, start, " ", s), decodeText(c, start, s), want}})
	}
}

func TestPromise4AnyBitsAreDecoded(t *testing.T) {
	source := rand.New(rand.NewSource(2))
	texts := textsUpTo(8)
	for _, c := range sampleCodes() {
		if c.Width <= 4 {
			for _, s := range texts {
				checkReading(t, c, s)
			}
		}
		if c.Width <= 8 {
			for n := range 1 << c.Width {
				checkReading(t, c, fmt.Sprintf("%0*b", int(c.Width), n))
			}
		}
		for _, count := range []int64{2, 3, 10, impl.MaxBits / c.Width} {
			checkReading(t, c, drawnBits(source, count*c.Width))
			checkReading(t, c, drawnBits(source, count*c.Width-1))
			checkReading(t, c, drawnBits(source, count*c.Width-c.Width/2))
			// Some words of each list stand where their state is not that of the line.
			words := slices.Concat(c.Minus, c.Plus)
			mixed := ""
			for range count {
				mixed += words[source.Intn(len(words))]
			}
			checkReading(t, c, mixed)
		}
	}
}

func TestPromise4NoBitsAreNotDecoded(t *testing.T) {
	for _, c := range madeCodes() {
		for _, start := range []int64{-1, 1} {
			for _, s := range append(notBits, "01x1", "01010\xff", strings.Repeat("01", 240), strings.Repeat("01", 12000)) {
				expect(t, []row{{fmt.Sprintf("DecodeBlocks %v %.20q", c, s), decodeText(c, start, s), noReceived}})
			}
			longest := strings.Repeat("1", int(impl.MaxBits/c.Width*c.Width))
			data, wrong, state := decodeReference(c, start, longest)
			expect(t, []row{
				{fmt.Sprint("DecodeBlocks of the most bits ", c), decodeText(c, start, longest), show(data, wrong, state, true)},
				{fmt.Sprint("DecodeBlocks of one bit more ", c), decodeText(c, start, longest+"1"), noReceived},
				{fmt.Sprint("DecodeBlocks of one bit less ", c), decodeText(c, start, longest[1:]), noReceived},
			})
		}
	}
}

func TestPromise4SendingOfExamples(t *testing.T) {
	pair, _ := makeReference(1, 2)
	made, _ := makeReference(3, 4)
	shared := codeOf(1, 2, []string{"01", "11"}, []string{"01", "00"})
	apart := codeOf(1, 2, []string{"01", "11"}, []string{"10", "00"})
	unbalanced := codeOf(1, 4, []string{"1110", "0111"}, []string{"0001", "0010"})
	expect(t, []row{
		{"no data", encodeText(pair, 1, nil), `"" 1 true`},
		{"no bits", decodeText(pair, -1, ""), "[] [] -1 true"},
		{"words of the disparity 0", encodeText(pair, -1, []int64{0, 1, 1}), `"011010" -1 true`},
		{"an error that changes the state", decodeText(pair, -1, "111010"), "[-1 1 1] [0] 1 true"},
		{"an error that keeps the state", decodeText(pair, 1, "111010"), "[-1 1 1] [0] 1 true"},
		{"the state changes and comes back", encodeText(made, -1, []int64{6, 6}), `"01111000" -1 true`},
		{"the state that has no such word", decodeText(made, 1, "01111000"), "[6 6] [0] -1 true"},
		{"both words from the other list", decodeText(made, 1, "01110111"), "[6 6] [0 1] 1 true"},
		{"far from balanced", decodeText(made, -1, "11110111"), "[-1 6] [0 1] 1 true"},
		{"a shared word in both states", encodeText(shared, -1, []int64{0, 1, 0, 1}), `"01110100" -1 true`},
		{"a shared word is no error", decodeText(shared, 1, "0101"), "[0 0] [] 1 true"},
		{"a word of the disparity 0 for each state", encodeText(apart, -1, []int64{0, 1, 0, 1}), `"01111000" -1 true`},
		{"a word of the disparity 0 of the other state", decodeText(apart, -1, "1001"), "[0 0] [0] -1 true"},
		{"no word of the disparity 0", encodeText(unbalanced, -1, []int64{0, 0, 1}), `"111000010111" 1 true`},
		{"a word of the disparity 0 that is none", decodeText(unbalanced, 1, "01010001"), "[-1 0] [0] -1 true"},
		{"half a word", decodeText(made, -1, "011110"), noReceived},
	})
}

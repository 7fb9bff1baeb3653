package tests

import (
	"fmt"
	"math"
	"math/rand"
	"slices"
	"strings"
	"testing"

	"loop.example/g01142/impl"
)

// What show returns for the results of functions of chapter 3 that fail.
const (
	noCode     = `{0 0 [] []} false`
	noSent     = `"" 0 false`
	noReceived = `[] [] 0 false`
	noPair     = `0 0 false`
)

func codeOf(data, width int64, minus, plus []string) impl.BlockCode {
	return impl.BlockCode{Data: data, Width: width, Minus: minus, Plus: plus}
}

// disparityReference returns how many more bits 1 than 0 a word has.
func disparityReference(word string) int {
	return strings.Count(word, "1") - strings.Count(word, "0")
}

// wordsWith returns all words of a width with a disparity, in ascending order.
func wordsWith(width int64, disparity int) []string {
	var words []string
	for n := range 1 << width {
		if word := fmt.Sprintf("%0*b", int(width), n); disparityReference(word) == disparity {
			words = append(words, word)
		}
	}
	return words
}

// invertedBits returns bits with each one changed.
func invertedBits(s string) string { return strings.NewReplacer("0", "1", "1", "0").Replace(s) }

// makeReference returns what MakeBlockCode must return for sizes that a code can have.
func makeReference(data, width int64) (impl.BlockCode, bool) {
	balanced, further := wordsWith(width, 0), wordsWith(width, 2)
	minus, plus := slices.Clone(balanced), slices.Clone(balanced)
	for _, word := range further {
		minus, plus = append(minus, word), append(plus, invertedBits(word))
	}
	if len(minus) < 1<<data {
		return impl.BlockCode{}, false
	}
	return codeOf(data, width, minus[:1<<data], plus[:1<<data]), true
}

// madeCodes returns all codes that MakeBlockCode can return.
func madeCodes() []impl.BlockCode {
	var codes []impl.BlockCode
	for width := int64(2); width <= impl.MaxWidth; width += 2 {
		for data := int64(1); data <= impl.MaxData; data++ {
			if c, ok := makeReference(data, width); ok {
				codes = append(codes, c)
			}
		}
	}
	return codes
}

// isCodeReference reports whether c is valid, if its sizes are.
func isCodeReference(c impl.BlockCode) bool {
	if len(c.Minus) != 1<<c.Data || len(c.Plus) != 1<<c.Data {
		return false
	}
	for i := range c.Minus {
		a, b := disparityReference(c.Minus[i]), disparityReference(c.Plus[i])
		if a != 0 && a != 2 || b != 0 && b != -2 {
			return false
		}
		for j := range c.Minus {
			if i != j && (c.Minus[i] == c.Minus[j] || c.Plus[i] == c.Plus[j] || c.Minus[i] == c.Plus[j]) {
				return false
			}
		}
	}
	return true
}

// codesOfWidth2 returns all codes with 2 words of 2 bits in each list: the valid ones, and the others.
func codesOfWidth2() ([]impl.BlockCode, []impl.BlockCode) {
	var valid, others []impl.BlockCode
	words := []string{"00", "01", "10", "11"}
	for n := range 256 {
		c := codeOf(1, 2, []string{words[n&3], words[n>>2&3]}, []string{words[n>>4&3], words[n>>6]})
		if isCodeReference(c) {
			valid = append(valid, c)
		} else {
			others = append(others, c)
		}
	}
	return valid, others
}

// pairKinds are the disparities of the words for the same data in Minus and in Plus; of the first kind, both are one word.
var pairKinds = [][2]int{{0, 0}, {0, 0}, {0, -2}, {2, 0}, {2, -2}}

// drawnCode returns a valid code with pairs of words of some kinds, if there are enough words.
func drawnCode(source *rand.Rand, data, width int64, kinds ...int) (impl.BlockCode, bool) {
	pools := map[int][]string{}
	for _, disparity := range []int{-2, 0, 2} {
		pool := wordsWith(width, disparity)
		source.Shuffle(len(pool), func(i, j int) { pool[i], pool[j] = pool[j], pool[i] })
		pools[disparity] = pool
	}
	take := func(disparity int) string {
		word := pools[disparity][0]
		pools[disparity] = pools[disparity][1:]
		return word
	}
	c := impl.BlockCode{Data: data, Width: width}
	for range 1 << data {
		var possible []int
		for _, kind := range kinds {
			pair := pairKinds[kind]
			enough := 1
			if kind == 1 {
				enough = 2
			}
			if len(pools[pair[0]]) >= enough && len(pools[pair[1]]) >= enough {
				possible = append(possible, kind)
			}
		}
		if len(possible) == 0 {
			return impl.BlockCode{}, false
		}
		kind := possible[source.Intn(len(possible))]
		word := take(pairKinds[kind][0])
		c.Minus = append(c.Minus, word)
		if kind != 0 {
			word = take(pairKinds[kind][1])
		}
		c.Plus = append(c.Plus, word)
	}
	return c, true
}

// drawnCodes returns valid codes of all sizes, with words of the disparity 0 in both lists, in one, or in none.
func drawnCodes() []impl.BlockCode {
	source := rand.New(rand.NewSource(4))
	var codes []impl.BlockCode
	for width := int64(2); width <= impl.MaxWidth; width += 2 {
		for data := int64(1); data <= impl.MaxData; data++ {
			for _, kinds := range [][]int{{0, 1, 2, 3, 4}, {0}, {1}, {4}, {2, 3}, {0, 4}} {
				if c, ok := drawnCode(source, data, width, kinds...); ok {
					codes = append(codes, c)
				}
			}
		}
	}
	return codes
}

func sampleCodes() []impl.BlockCode {
	codes, _ := codesOfWidth2()
	return slices.Concat(codes, madeCodes(), drawnCodes())
}

// withWord returns a list in which one word is another one.
func withWord(words []string, at int, word string) []string {
	words = slices.Clone(words)
	words[at] = word
	return words
}

func invalidCodes() []impl.BlockCode {
	_, codes := codesOfWidth2()
	both := []string{"01", "10"}
	for _, n := range []int64{math.MinInt64, -64, -1, 0, 2, 7, 62, 63, 64, 1 << 32, math.MaxInt64} {
		codes = append(codes, codeOf(n, 2, both, both))
	}
	for _, n := range []int64{math.MinInt64, -2, -1, 0, 1, 3, 4, 14, 1 << 32, math.MaxInt64} {
		codes = append(codes, codeOf(1, n, both, both))
	}
	// Beyond the limits, all else is as it must be.
	for _, sizes := range [][2]int64{{1, 14}, {6, 14}, {7, 12}, {0, 12}, {0, 2}} {
		c, ok := makeReference(sizes[0], sizes[1])
		if !ok {
			panic("no such code")
		}
		codes = append(codes, c)
	}
	codes = append(codes, codeOf(1, 1, []string{"0", "1"}, []string{"0", "1"}),
		codeOf(1, 3, []string{"011", "101"}, []string{"001", "010"}), codeOf(1, 0, []string{"", ""}, []string{"", ""}),
		impl.BlockCode{}, codeOf(1, 2, nil, nil), codeOf(1, 2, both, nil), codeOf(1, 2, nil, both),
		codeOf(1, 2, both, []string{}), codeOf(1, 2, both[:1], both), codeOf(1, 2, both, both[:1]),
		codeOf(1, 2, []string{"01", "10", "11"}, both), codeOf(1, 2, both, []string{"01", "10", "00"}))
	c, _ := makeReference(4, 6)
	for _, word := range append(notBits, "", "0011", "01010", "0101010", "00110011", "00x111", "\x00\x0100\xff1",
		"000000", "111111", "111110", "000001") {
		codes = append(codes, codeOf(4, 6, withWord(c.Minus, 15, word), c.Plus), codeOf(4, 6, c.Minus, withWord(c.Plus, 15, word)))
	}
	return append(codes, codeOf(4, 6, withWord(c.Minus, 15, "110000"), c.Plus), codeOf(4, 6, c.Minus, withWord(c.Plus, 15, "111100")),
		codeOf(4, 6, withWord(c.Minus, 0, c.Minus[15]), withWord(c.Plus, 0, "110000")),
		codeOf(4, 6, withWord(c.Minus, 0, "110101"), withWord(c.Plus, 0, c.Plus[15])),
		codeOf(4, 6, withWord(c.Minus, 0, c.Plus[15]), withWord(c.Plus, 15, c.Plus[15])),
		codeOf(4, 6, withWord(c.Minus, 15, "111000"), withWord(c.Plus, 0, "111000")),
		codeOf(6, 12, repeated(strings.Repeat("01", 6), 64), repeated(strings.Repeat("01", 6), 64)),
		codeOf(1, 2, repeated("01", 100000), repeated("01", 100000)))
}

func TestPromise4ValidCodes(t *testing.T) {
	codes := sampleCodes()
	for _, c := range codes {
		if !impl.ValidBlockCode(c) {
			t.Errorf("%v is valid", c)
		}
	}
	for i, c := range invalidCodes() {
		if impl.ValidBlockCode(c) {
			t.Errorf("code %d, %.200v, is not valid", i, fmt.Sprint(c))
		}
	}
}

func TestPromise4CodesOfExamples(t *testing.T) {
	for _, c := range []struct {
		why     string
		code    impl.BlockCode
		isValid bool
	}{
		{"words of the disparity 0 in both lists", codeOf(1, 2, []string{"01", "10"}, []string{"01", "10"}), true},
		{"they stand at other indices", codeOf(1, 2, []string{"01", "10"}, []string{"10", "01"}), false},
		{"one of them stands at another index", codeOf(1, 2, []string{"01", "11"}, []string{"00", "01"}), false},
		{"one word in both lists", codeOf(1, 2, []string{"01", "11"}, []string{"01", "00"}), true},
		{"different words of the disparity 0", codeOf(1, 2, []string{"01", "11"}, []string{"10", "00"}), true},
		{"disparities that differ for the same data", codeOf(1, 2, []string{"11", "01"}, []string{"10", "00"}), true},
		{"no word of the disparity 0", codeOf(1, 4, []string{"1110", "0111"}, []string{"0001", "0010"}), true},
		{"a repeated word", codeOf(1, 4, []string{"1110", "1110"}, []string{"0001", "0010"}), false},
		{"too many bits 1 in Minus", codeOf(1, 4, []string{"1111", "0111"}, []string{"0001", "0010"}), false},
		{"too many bits 1 in Plus", codeOf(1, 4, []string{"1110", "0111"}, []string{"0001", "0111"}), false},
		{"too few bits 1 in Minus", codeOf(1, 4, []string{"1110", "0001"}, []string{"0001", "0010"}), false},
		{"too few bits 1 in Plus", codeOf(1, 4, []string{"1110", "0111"}, []string{"0000", "0010"}), false},
	} {
		if got := impl.ValidBlockCode(c.code); got != c.isValid {
			t.Errorf("%s: ValidBlockCode %v: got %v", c.why, c.code, got)
		}
	}
}

func TestPromise4InvalidCodesFail(t *testing.T) {
	for i, c := range invalidCodes() {
		name := fmt.Sprint("invalid code ", i, ": ")
		sent, state, isSent := impl.EncodeBlocks(c, -1, nil)
		first, _, isFirst := impl.EncodeBlocks(c, 1, []int64{0})
		received, wrong, end, isReceived := impl.DecodeBlocks(c, -1, "")
		data, seen, last, isData := impl.DecodeBlocks(c, 1, "0101")
		expect(t, []row{
			{name + "EncodeBlocks of nothing", show(sent, state, isSent), noSent},
			{name + "EncodeBlocks", show(first, isFirst), noText},
			{name + "DecodeBlocks of nothing", show(received, wrong, end, isReceived), noReceived},
			{name + "DecodeBlocks", show(data, seen, last, isData), noReceived},
			{name + "SumRange", sumText(c), noPair},
			{name + "RunBound", show(impl.RunBound(c)), noNumber},
			{name + "IsComma", show(impl.IsComma(c, "000")), "false"},
			{name + "IsComma of one bit", show(impl.IsComma(c, "1")), "false"},
			{name + "CommasOf", show(impl.CommasOf(c, 1)), noList},
			{name + "FlipEffect", flipText(c, -1, []int64{0}, 0), noPair},
		})
	}
}

func TestPromise4Disparities(t *testing.T) {
	texts := append(textsUpTo(11), strings.Repeat("1", 400), strings.Repeat("0", 400), strings.Repeat("011", 133), strings.Repeat("10", 200))
	for _, s := range texts {
		expect(t, []row{{"DisparityOf " + s, show(impl.DisparityOf(s)), show(disparityReference(s), true)}})
	}
	expect(t, []row{
		{"no bits", show(impl.DisparityOf("")), "0 true"},
		{"0111", show(impl.DisparityOf("0111")), "2 true"},
		{"1000", show(impl.DisparityOf("1000")), "-2 true"},
		{"400 bits 0", show(impl.DisparityOf(strings.Repeat("0", 400))), "-400 true"},
		{"401 bits", show(impl.DisparityOf(strings.Repeat("1", 401))), noNumber},
	})
	for _, s := range notBits {
		expect(t, []row{{fmt.Sprintf("DisparityOf %.20q", s), show(impl.DisparityOf(s)), noNumber}})
	}
}

func TestPromise4CountsOfDisparities(t *testing.T) {
	counts := [impl.MaxWidth + 1]map[int]int64{}
	for _, s := range textsUpTo(impl.MaxWidth) {
		if counts[len(s)] == nil {
			counts[len(s)] = map[int]int64{}
		}
		counts[len(s)][disparityReference(s)]++
	}
	for width := range int64(impl.MaxWidth + 1) {
		for disparity := -impl.MaxWidth; disparity <= impl.MaxWidth; disparity++ {
			name := fmt.Sprint("CountBalanced ", width, " ", disparity)
			expect(t, []row{{name, show(impl.CountBalanced(width, int64(disparity))), show(counts[width][disparity], true)}})
		}
		for _, disparity := range []int64{-13, 13, -14, 14, math.MinInt64, math.MaxInt64} {
			expect(t, []row{{fmt.Sprint("CountBalanced ", width, disparity), show(impl.CountBalanced(width, disparity)), noNumber}})
		}
	}
	for _, width := range outside(impl.MaxWidth) {
		for disparity := int64(-13); disparity <= 13; disparity++ {
			expect(t, []row{{fmt.Sprint("CountBalanced ", width, disparity), show(impl.CountBalanced(width, disparity)), noNumber}})
		}
	}
	expect(t, []row{
		{"no bits", show(impl.CountBalanced(0, 0)), "1 true"},
		{"no bits with the greatest disparity", show(impl.CountBalanced(0, 12)), "0 true"},
		{"12 bits 0", show(impl.CountBalanced(12, -12)), "1 true"},
		{"12 bits", show(impl.CountBalanced(12, 0)), "924 true"},
		{"an odd number of bits", show(impl.CountBalanced(3, 1)), "3 true"},
		{"an odd disparity", show(impl.CountBalanced(4, 1)), "0 true"},
	})
}

func TestPromise4MadeCodes(t *testing.T) {
	var made []string
	for data := int64(-1); data <= impl.MaxData+1; data++ {
		for width := int64(-2); width <= impl.MaxWidth+2; width++ {
			want, ok := impl.BlockCode{}, false
			if 1 <= data && data <= impl.MaxData && 2 <= width && width <= impl.MaxWidth && width%2 == 0 {
				want, ok = makeReference(data, width)
			}
			if ok {
				made = append(made, fmt.Sprint(data, "/", width))
			}
			expect(t, []row{{fmt.Sprint("MakeBlockCode ", data, width), show(impl.MakeBlockCode(data, width)), show(want, ok)}})
		}
	}
	const all = "1/2 1/4 1/6 1/8 1/10 1/12 2/4 2/6 2/8 2/10 2/12 3/4 3/6 3/8 3/10 3/12 " +
		"4/6 4/8 4/10 4/12 5/6 5/8 5/10 5/12 6/8 6/10 6/12"
	if got := strings.Join(made, " "); got != all {
		t.Errorf("codes are made for %s, not for %s", got, all)
	}
	for _, n := range []int64{math.MinInt64, -64, 0, 7, 13, 14, 62, 63, 64, math.MaxInt64} {
		expect(t, []row{
			{fmt.Sprint("MakeBlockCode, data ", n), show(impl.MakeBlockCode(n, 12)), noCode},
			{fmt.Sprint("MakeBlockCode, width ", n), show(impl.MakeBlockCode(1, n)), noCode},
		})
	}
}

func TestPromise4MadeCodesOfExamples(t *testing.T) {
	expect(t, []row{
		{"1 and 2", show(impl.MakeBlockCode(1, 2)), "{1 2 [01 10] [01 10]} true"},
		{"2 and 2, one word too few", show(impl.MakeBlockCode(2, 2)), noCode},
		{"2 and 4, with words of the disparity 0 alone", show(impl.MakeBlockCode(2, 4)), "{2 4 [0011 0101 0110 1001] [0011 0101 0110 1001]} true"},
		{"3 and 4", show(impl.MakeBlockCode(3, 4)), "{3 4 [0011 0101 0110 1001 1010 1100 0111 1011] [0011 0101 0110 1001 1010 1100 1000 0100]} true"},
		{"4 and 4", show(impl.MakeBlockCode(4, 4)), noCode},
	})
}

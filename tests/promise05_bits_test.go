package tests

import (
	"fmt"
	"math"
	"math/rand"
	"strings"
	"testing"

	"loop.example/g01142/impl"
)

// invalidStuffers are stuffers that every function refuses.
var invalidStuffers = []impl.Stuffer{
	{}, {After: 0, Bit: 1}, {After: -1, Bit: 1}, {After: 11, Bit: 1}, {After: 11, Bit: 0}, {After: 12, Bit: 0},
	{After: 1, Bit: -1}, {After: 1, Bit: 2}, {After: 10, Bit: 2}, {After: 10, Bit: -1}, {After: 5, Bit: 48}, {After: 5, Bit: 49},
	{After: 257, Bit: 1}, {After: 1, Bit: 256}, {After: 1, Bit: 257},
	{After: math.MinInt64, Bit: 1}, {After: math.MaxInt64, Bit: 0}, {After: 3, Bit: math.MinInt64}, {After: 3, Bit: math.MaxInt64},
	{After: math.MinInt64, Bit: math.MaxInt64},
}

// validStuffers returns all stuffers that are valid.
func validStuffers() []impl.Stuffer {
	var stuffers []impl.Stuffer
	for after := range int64(10) {
		stuffers = append(stuffers, impl.Stuffer{After: after + 1, Bit: 0}, impl.Stuffer{After: after + 1, Bit: 1})
	}
	return stuffers
}

// bitsOf returns so many bits that are the bit of a stuffer, and as many other ones.
func bitsOf(s impl.Stuffer, count int64) (string, string) {
	return strings.Repeat(fmt.Sprint(s.Bit), int(count)), strings.Repeat(fmt.Sprint(1-s.Bit), int(count))
}

// stuffReference returns the stuffed bits, of any length.
func stuffReference(s impl.Stuffer, bits string) string {
	run, _ := bitsOf(s, s.After)
	_, other := bitsOf(s, 1)
	return strings.ReplaceAll(bits, run, run+other)
}

// unstuffReference returns the bits that are stuffed as other ones, if there are any.
func unstuffReference(s impl.Stuffer, stuffed string) (string, bool) {
	run, _ := bitsOf(s, s.After)
	_, other := bitsOf(s, 1)
	bits := strings.ReplaceAll(stuffed, run+other, run)
	if stuffReference(s, bits) != stuffed {
		return "", false
	}
	return bits, true
}

// longTexts returns bits of many kinds with a length.
func longTexts(source *rand.Rand, length int64) []string {
	texts := []string{strings.Repeat("0", int(length)), strings.Repeat("1", int(length)), drawnBits(source, length)}
	for _, rarely := range []int{3, 10, 40} {
		mostly := []byte(strings.Repeat("1", int(length)))
		for i := range mostly {
			if source.Intn(rarely) == 0 {
				mostly[i] = '0'
			}
		}
		texts = append(texts, string(mostly), invertedBits(string(mostly)))
	}
	return texts
}

func checkStuffing(t *testing.T, s impl.Stuffer, bits string) {
	t.Helper()
	name := fmt.Sprint(s, " ", bits)
	want := stuffReference(s, bits)
	if len(want) > 400 {
		expect(t, []row{{"StuffBits of too many bits " + name, show(impl.StuffBits(s, bits)), noText}})
		return
	}
	expect(t, []row{
		{"StuffBits " + name, show(impl.StuffBits(s, bits)), show(want, true)},
		{"UnstuffBits of what is stuffed " + name, show(impl.UnstuffBits(s, want)), show(bits, true)},
	})
	longest, ok := impl.LongestRun(s, want)
	if !ok || longest > s.After {
		t.Errorf("LongestRun of what is stuffed %s: got %v %v", name, longest, ok)
	}
	if flag, _ := impl.FlagOf(s); flag == "" || strings.Contains(want, flag) {
		t.Errorf("%s: the flag %q occurs in %s", name, flag, want)
	}
}

func TestPromise5ValidStuffer(t *testing.T) {
	for _, s := range validStuffers() {
		if !impl.ValidStuffer(s) {
			t.Errorf("%v is valid", s)
		}
	}
	for _, s := range invalidStuffers {
		if impl.ValidStuffer(s) {
			t.Errorf("%v is not valid", s)
		}
		name := fmt.Sprint(s)
		expect(t, []row{
			{"StuffBits " + name, show(impl.StuffBits(s, "0110")), noText},
			{"StuffBits of no bits " + name, show(impl.StuffBits(s, "")), noText},
			{"UnstuffBits " + name, show(impl.UnstuffBits(s, "0101")), noText},
			{"UnstuffBits of no bits " + name, show(impl.UnstuffBits(s, "")), noText},
			{"LongestRun " + name, show(impl.LongestRun(s, "0110")), noNumber},
			{"LongestRun of no bits " + name, show(impl.LongestRun(s, "")), noNumber},
			{"FlagOf " + name, show(impl.FlagOf(s)), noText},
			{"FrameBits " + name, show(impl.FrameBits(s, []string{"1"})), noText},
			{"DeframeBits " + name, show(impl.DeframeBits(s, "0110101100")), noList},
			{"DeframeBits of no bits " + name, show(impl.DeframeBits(s, "")), noList},
			{"MeanStuffed " + name, show(impl.MeanStuffed(s)), noFraction},
			{"MostStuffed " + name, show(impl.MostStuffed(s, 4)), noNumber},
			{"MostStuffed of no bits " + name, show(impl.MostStuffed(s, 0)), noNumber},
			{"CountStuffed " + name, show(impl.CountStuffed(s, 4)), noList},
			{"CountStuffed of no bits " + name, show(impl.CountStuffed(s, 0)), noList},
		})
	}
}

func TestPromise5BitsComeBack(t *testing.T) {
	source := rand.New(rand.NewSource(3))
	texts := textsUpTo(11)
	for _, s := range validStuffers() {
		for _, bits := range texts {
			checkStuffing(t, s, bits)
		}
		for _, length := range []int64{20, 57, 133, 199, 200, 201, 266, 267, 363, 364, 399, 400} {
			for _, bits := range longTexts(source, length) {
				checkStuffing(t, s, bits)
			}
		}
	}
}

// Runs stand at the beginning, in the middle and at the end, and are a few bits longer or shorter than those of the stuffer.
func TestPromise5RunsAnywhereComeBack(t *testing.T) {
	for _, s := range validStuffers() {
		for before := range int64(3) {
			_, first := bitsOf(s, before)
			for run := range 3*s.After + 3 {
				runs, _ := bitsOf(s, run)
				for behind := range int64(3) {
					_, last := bitsOf(s, behind)
					checkStuffing(t, s, first+runs+last)
					checkStuffing(t, s, first+runs+last+runs)
				}
			}
		}
	}
}

func TestPromise5StuffedBitsHaveALimit(t *testing.T) {
	for _, s := range validStuffers() {
		_, others := bitsOf(s, 400)
		_, beside := bitsOf(s, 400%(s.After+1))
		_, other := bitsOf(s, 1)
		runs, _ := bitsOf(s, 400/(s.After+1)*s.After)
		stuffed := stuffReference(s, beside+runs)
		if len(stuffed) != 400 {
			t.Fatalf("%v: the example has %d bits", s, len(stuffed))
		}
		name := fmt.Sprint(s)
		expect(t, []row{
			{"400 bits with runs " + name, show(impl.StuffBits(s, beside+runs)), show(stuffed, true)},
			{"400 bits without runs " + name, show(impl.StuffBits(s, others)), show(others, true)},
			{"401 bits, the last one is further " + name, show(impl.StuffBits(s, other+beside+runs)), noText},
			{"401 bits, the last one is an other one " + name, show(impl.StuffBits(s, beside+runs+other)), noText},
			{"401 bits, the last one begins a run " + name, show(impl.StuffBits(s, beside+runs+runs[:1])), noText},
			{"401 bits without runs " + name, show(impl.StuffBits(s, others+other)), noText},
			{"400 bits with runs come back " + name, show(impl.UnstuffBits(s, stuffed)), show(beside+runs, true)},
			{"400 bits without runs come back " + name, show(impl.UnstuffBits(s, others)), show(others, true)},
			{"401 bits with runs do not " + name, show(impl.UnstuffBits(s, stuffed+other)), noText},
			{"401 bits without runs do not " + name, show(impl.UnstuffBits(s, others+other)), noText},
		})
	}
}

// All texts are unstuffed as far as a text is stuffed as them.
func TestPromise5OnlyStuffedBitsAreUnstuffed(t *testing.T) {
	texts := textsUpTo(11)
	for _, s := range validStuffers() {
		stuffed := map[string]string{}
		for _, bits := range texts {
			from := stuffReference(s, bits)
			if other, isTaken := stuffed[from]; isTaken {
				t.Errorf("%v: %s and %s are both stuffed as %s", s, bits, other, from)
			}
			stuffed[from] = bits
		}
		for _, text := range texts {
			bits, ok := stuffed[text]
			expect(t, []row{{fmt.Sprint("UnstuffBits ", s, " ", text), show(impl.UnstuffBits(s, text)), show(bits, ok)}})
		}
	}
}

func TestPromise5LongBitsAreUnstuffedOrNot(t *testing.T) {
	source := rand.New(rand.NewSource(4))
	for _, s := range validStuffers() {
		for _, length := range []int64{20, 111, 399, 400} {
			for _, text := range longTexts(source, length) {
				expect(t, []row{{fmt.Sprint("UnstuffBits ", s, " ", text), show(impl.UnstuffBits(s, text)), show(unstuffReference(s, text))}})
			}
			_, others := bitsOf(s, length-s.After)
			run, _ := bitsOf(s, s.After)
			expect(t, []row{
				{fmt.Sprint("a run at the end ", s, length), show(impl.UnstuffBits(s, others+run)), noText},
				{fmt.Sprint("a run at the beginning ", s, length), show(impl.UnstuffBits(s, run+others)), show(run+others[1:], true)},
				{fmt.Sprint("a run that is too long ", s, length), show(impl.UnstuffBits(s, others[1:]+run+run[:1])), noText},
			})
		}
	}
}

func TestPromise5LongestRun(t *testing.T) {
	source := rand.New(rand.NewSource(5))
	texts := textsUpTo(10)
	for _, length := range []int64{60, 399, 400} {
		texts = append(texts, longTexts(source, length)...)
	}
	for _, s := range validStuffers() {
		for _, bits := range texts {
			longest := int64(0)
			for run, _ := bitsOf(s, 1); strings.Contains(bits, run); run += run[:1] {
				longest++
			}
			expect(t, []row{{fmt.Sprint("LongestRun ", s, " ", bits), show(impl.LongestRun(s, bits)), show(longest, true)}})
		}
	}
}

func TestPromise5NoBitsAreNotStuffed(t *testing.T) {
	for _, s := range validStuffers() {
		for _, text := range notBits {
			name := fmt.Sprintf("%v %.20q", s, text)
			expect(t, []row{
				{"StuffBits " + name, show(impl.StuffBits(s, text)), noText},
				{"UnstuffBits " + name, show(impl.UnstuffBits(s, text)), noText},
				{"LongestRun " + name, show(impl.LongestRun(s, text)), noNumber},
			})
		}
	}
}

func TestPromise5BitsOfExamples(t *testing.T) {
	s := impl.Stuffer{After: 2, Bit: 1}
	zeros := impl.Stuffer{After: 3, Bit: 0}
	single := impl.Stuffer{After: 1, Bit: 1}
	expect(t, []row{
		{"the document's bits", show(impl.StuffBits(s, "11101")), `"110101" true`},
		{"no bits", show(impl.StuffBits(s, "")), `"" true`},
		{"no stuffed bits", show(impl.UnstuffBits(s, "")), `"" true`},
		{"no run", show(impl.StuffBits(s, "0100")), `"0100" true`},
		{"a run at the end", show(impl.StuffBits(s, "011")), `"0110" true`},
		{"two runs at the end", show(impl.StuffBits(s, "1111")), `"110110" true`},
		{"a further bit stands already", show(impl.StuffBits(s, "110")), `"1100" true`},
		{"each 1", show(impl.StuffBits(single, "0110")), `"010100" true`},
		{"zeros", show(impl.StuffBits(zeros, "00000001")), `"0001000101" true`},
		{"zeros come back", show(impl.UnstuffBits(zeros, "0001000101")), `"00000001" true`},
		{"a further bit is missing", show(impl.UnstuffBits(s, "11")), noText},
		{"a run is too long", show(impl.UnstuffBits(s, "1110")), noText},
		{"the longest of three runs", show(impl.LongestRun(s, "10111011")), "3 true"},
		{"the longest run of zeros", show(impl.LongestRun(zeros, "10111001")), "2 true"},
		{"the longest run of no bits", show(impl.LongestRun(s, "")), "0 true"},
		{"a bit that does not occur", show(impl.LongestRun(zeros, "111")), "0 true"},
	})
}

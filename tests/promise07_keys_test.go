package tests

import (
	"fmt"
	"math"
	"math/rand"
	"slices"
	"strings"
	"testing"

	"loop.example/g01142/impl"
)

func scramblerOf(state string, taps ...int64) impl.Scrambler {
	return impl.Scrambler{Taps: taps, State: state}
}

// tapSets returns all sets of taps with a width.
func tapSets(width int64) [][]int64 {
	var sets [][]int64
	for mask := range int64(1) << (width - 1) {
		var taps []int64
		for tap := int64(1); tap < width; tap++ {
			if mask>>(tap-1)&1 == 1 {
				taps = append(taps, tap)
			}
		}
		sets = append(sets, append(taps, width))
	}
	return sets
}

// textsOf returns all texts of 0 and 1 with a length.
func textsOf(length int64) []string { return textsUpTo(int(length))[1<<length-1:] }

// smallScramblers returns all scramblers with at most a width.
func smallScramblers(most int64) []impl.Scrambler {
	var all []impl.Scrambler
	for width := int64(1); width <= most; width++ {
		for _, taps := range tapSets(width) {
			for _, state := range textsOf(width) {
				all = append(all, scramblerOf(state, taps...))
			}
		}
	}
	return all
}

// longTaps returns for each width a set of taps with which all states but that of zeros come one behind the other.
func longTaps() [][]int64 {
	return [][]int64{
		{1}, {1, 2}, {1, 3}, {3, 4}, {2, 5}, {1, 6}, {6, 7}, {4, 5, 6, 8}, {4, 9}, {3, 10}, {2, 11},
		{1, 4, 6, 12}, {1, 3, 4, 13}, {1, 3, 5, 14}, {14, 15}, {4, 13, 15, 16},
	}
}

// tapsFrom returns all numbers from the least to the greatest one.
func tapsFrom(least, greatest int64) []int64 {
	var taps []int64
	for tap := least; tap <= greatest; tap++ {
		taps = append(taps, tap)
	}
	return taps
}

// drawnTaps returns a set of taps with a width.
func drawnTaps(source *rand.Rand, width int64) []int64 {
	var taps []int64
	for tap := int64(1); tap < width; tap++ {
		if source.Intn(2) == 0 {
			taps = append(taps, tap)
		}
	}
	return append(taps, width)
}

// statesOf returns states of many kinds with a width.
func statesOf(source *rand.Rand, width int64) []string {
	zeros := strings.Repeat("0", int(width))
	turns := strings.Repeat("01", int(width))
	return []string{
		zeros, invertedBits(zeros), zeros[1:] + "1", "1" + zeros[1:], turns[:width], turns[1 : width+1],
		drawnBits(source, width), drawnBits(source, width), drawnBits(source, width),
	}
}

// largeScramblers returns scramblers of all widths, those with one tap and with all of them too.
func largeScramblers(source *rand.Rand) []impl.Scrambler {
	var all []impl.Scrambler
	for width := int64(1); width <= 16; width++ {
		for _, taps := range [][]int64{{width}, tapsFrom(1, width), longTaps()[width-1], drawnTaps(source, width), drawnTaps(source, width)} {
			for _, state := range statesOf(source, width) {
				all = append(all, scramblerOf(state, taps...))
			}
		}
	}
	return all
}

func sampleScramblers(source *rand.Rand) []impl.Scrambler {
	return append(smallScramblers(4), largeScramblers(source)...)
}

// lengthsAround returns lengths of bits: around the width of a scrambler, and the least and the greatest ones.
func lengthsAround(s impl.Scrambler) []int64 {
	width := int64(len(s.State))
	return []int64{0, 1, width - 1, width, width + 1, 2 * width, 57, 399, 400}
}

// sequenceBehind returns the bits of a state in the order in which they came.
func sequenceBehind(state string) []byte {
	sequence := []byte(state)
	slices.Reverse(sequence)
	return sequence
}

// sumReference returns the sum at the place behind a sequence as a digit.
func sumReference(taps []int64, sequence []byte) byte {
	digit := byte('0')
	for _, tap := range taps {
		if sequence[len(sequence)-int(tap)] == '1' {
			digit = '0' + '1' - digit
		}
	}
	return digit
}

// keyReference returns the first bits of the key, of any number.
func keyReference(s impl.Scrambler, count int64) string {
	sequence := sequenceBehind(s.State)
	for range count {
		sequence = append(sequence, sumReference(s.Taps, sequence))
	}
	return string(sequence[len(s.State):])
}

// differences returns the bits that are 1 where two texts differ.
func differences(a, b string) string {
	digits := []byte(a)
	for i := range digits {
		if digits[i] == b[i] {
			digits[i] = '0'
		} else {
			digits[i] = '1'
		}
	}
	return string(digits)
}

func TestPromise7Keys(t *testing.T) {
	source := rand.New(rand.NewSource(81))
	for _, s := range sampleScramblers(source) {
		key := keyReference(s, 400)
		for _, count := range lengthsAround(s) {
			expect(t, []row{{fmt.Sprint("KeyBits ", s, count), show(impl.KeyBits(s, count)), show(key[:count], true)}})
		}
	}
}

func TestPromise7KeysOfAllLengths(t *testing.T) {
	for _, s := range []impl.Scrambler{
		scramblerOf("1", 1), scramblerOf("100", 1, 3), scramblerOf("1000000000000001", 16), scramblerOf("0110100110010110", 4, 13, 15, 16),
	} {
		key := keyReference(s, 400)
		for count := range int64(401) {
			expect(t, []row{{fmt.Sprint("KeyBits ", s, count), show(impl.KeyBits(s, count)), show(key[:count], true)}})
		}
	}
}

func checkAdding(t *testing.T, s impl.Scrambler, bits string) {
	t.Helper()
	want := differences(bits, keyReference(s, int64(len(bits))))
	expect(t, []row{
		{fmt.Sprint("AddScramble ", s, bits), show(impl.AddScramble(s, bits)), show(want, true)},
		{fmt.Sprint("AddScramble twice ", s, bits), show(impl.AddScramble(s, want)), show(bits, true)},
	})
}

// eachBits calls a check with small scramblers and all short bits, and with large ones and bits up to the longest ones.
func eachBits(t *testing.T, seed int64, check func(t *testing.T, s impl.Scrambler, bits string)) {
	t.Helper()
	source := rand.New(rand.NewSource(seed))
	for _, s := range smallScramblers(4) {
		for _, bits := range textsUpTo(7) {
			check(t, s, bits)
		}
	}
	for _, s := range largeScramblers(source) {
		for _, length := range lengthsAround(s) {
			check(t, s, drawnBits(source, length))
		}
		check(t, s, strings.Repeat("0", 400))
		check(t, s, strings.Repeat("1", 400))
	}
}

func TestPromise7KeysAreAdded(t *testing.T) { eachBits(t, 82, checkAdding) }

// periodByTrying returns the least number of places behind which the bits of a key are the same ones.
func periodByTrying(s impl.Scrambler) int64 {
	most := int64(1) << len(s.State)
	key := keyReference(s, 3*most)
	for period := int64(1); ; period++ {
		if key[:2*most] == key[period:period+2*most] {
			return period
		}
	}
}

// periodBySearch returns where the first bits of a key, as many as the width, come again.
func periodBySearch(s impl.Scrambler) int64 {
	width := len(s.State)
	key := keyReference(s, int64(1)<<width+int64(width))
	return int64(strings.Index(key[1:], key[:width])) + 1
}

func TestPromise7PeriodsByTrying(t *testing.T) {
	for _, s := range smallScramblers(6) {
		want := periodByTrying(s)
		if other := periodBySearch(s); other != want {
			t.Fatalf("%v: the references are %d and %d", s, want, other)
		}
		expect(t, []row{{fmt.Sprint("KeyPeriod ", s), show(impl.KeyPeriod(s)), show(want, true)}})
	}
}

func TestPromise7PeriodsOfLargeScramblers(t *testing.T) {
	source := rand.New(rand.NewSource(83))
	for _, s := range largeScramblers(source) {
		expect(t, []row{{fmt.Sprint("KeyPeriod ", s), show(impl.KeyPeriod(s)), show(periodBySearch(s), true)}})
	}
}

// A period is as long as it can be if all states but that of zeros come one behind the other.
func TestPromise7LongestPeriods(t *testing.T) {
	source := rand.New(rand.NewSource(84))
	for _, taps := range longTaps() {
		width := taps[len(taps)-1]
		for _, state := range statesOf(source, width) {
			want := int64(1)<<width - 1
			if !strings.Contains(state, "1") {
				want = 1
			}
			s := scramblerOf(state, taps...)
			expect(t, []row{{fmt.Sprint("KeyPeriod ", s), show(impl.KeyPeriod(s)), show(want, true)}})
		}
	}
}

func TestPromise7ShortPeriods(t *testing.T) {
	all := tapsFrom(1, 16)
	odd := []int64{1, 3, 5, 7, 9, 11, 13, 16}
	zeros, ones := strings.Repeat("0", 16), strings.Repeat("1", 16)
	for _, r := range []struct {
		s    impl.Scrambler
		want int64
	}{
		{scramblerOf("0", 1), 1}, {scramblerOf("1", 1), 1}, {scramblerOf("00", 2), 1}, {scramblerOf("01", 2), 2}, {scramblerOf("11", 2), 1},
		{scramblerOf("111", 1, 2, 3), 1}, {scramblerOf("101", 1, 2, 3), 2}, {scramblerOf("100", 1, 2, 3), 4},
		{scramblerOf(zeros, all...), 1}, {scramblerOf(ones, all...), 17}, {scramblerOf(zeros[1:]+"1", all...), 17}, {scramblerOf("1"+zeros[1:], all...), 17},
		{scramblerOf(zeros, 16), 1}, {scramblerOf(ones, 16), 1}, {scramblerOf(zeros[1:]+"1", 16), 16}, {scramblerOf("1"+zeros[1:], 16), 16},
		{scramblerOf(strings.Repeat("01", 8), 16), 2}, {scramblerOf(strings.Repeat("1000", 4), 16), 4}, {scramblerOf(strings.Repeat("11010000", 2), 16), 8},
		// Parts of 15 bits come again sooner than the state.
		{scramblerOf("1000000000000001", 16), 16}, {scramblerOf("0000000000000001", 8, 16), 24}, {scramblerOf("0111111111111111", 16), 16},
		{scramblerOf(ones, odd...), periodBySearch(scramblerOf(ones, odd...))}, {scramblerOf(ones, append([]int64{1, 2}, 16)...), 1},
	} {
		expect(t, []row{{fmt.Sprint("KeyPeriod ", r.s), show(impl.KeyPeriod(r.s)), show(r.want, true)}})
		if other := periodBySearch(r.s); other != r.want {
			t.Errorf("%v: the reference has the period %d", r.s, other)
		}
	}
}

// Each state but the one of zeros leads through as many others as its period tells.
func TestPromise7PeriodsAddUp(t *testing.T) {
	for width := int64(1); width <= 8; width++ {
		for _, taps := range tapSets(width)[:min(1<<(width-1), 16)] {
			counts := map[int64]int64{}
			for _, state := range textsOf(width) {
				period, _ := impl.KeyPeriod(scramblerOf(state, taps...))
				counts[period]++
			}
			var sum int64
			for period, count := range counts {
				if period < 1 || count%period != 0 {
					t.Errorf("%v: %d states have the period %d", taps, count, period)
				}
				sum += count
			}
			if sum != 1<<width {
				t.Errorf("%v: %d states", taps, sum)
			}
		}
	}
}

func TestPromise7StateOfZeros(t *testing.T) {
	source := rand.New(rand.NewSource(85))
	for _, s := range largeScramblers(source) {
		s.State = strings.Repeat("0", len(s.State))
		zeros := strings.Repeat("0", 400)
		plain := drawnBits(source, 400)
		expect(t, []row{
			{fmt.Sprint("KeyBits ", s), show(impl.KeyBits(s, 400)), show(zeros, true)},
			{fmt.Sprint("KeyPeriod ", s), show(impl.KeyPeriod(s)), show(1, true)},
			{fmt.Sprint("AddScramble ", s), show(impl.AddScramble(s, plain)), show(plain, true)},
			{fmt.Sprint("WorstBits ", s), show(impl.WorstBits(s, 400)), show(zeros, true)},
			{fmt.Sprint("SelfScramble ", s), show(impl.SelfScramble(s, zeros)), show(zeros, true)},
			{fmt.Sprint("SelfDescramble ", s), show(impl.SelfDescramble(s, zeros)), show(zeros, true)},
			{fmt.Sprint("FindKey ", s), show(impl.FindKey(s.Taps, plain, plain)), show(s.State, true)},
			{fmt.Sprint("FindKey for the width ", s), show(impl.FindKey(s.Taps, s.State, s.State)), show(s.State, true)},
		})
	}
}

func TestPromise7KeyExamples(t *testing.T) {
	s := scramblerOf("100", 1, 3)
	expect(t, []row{
		{"the document's key", show(impl.KeyBits(s, 4)), `"1101" true`},
		{"its period", show(impl.KeyPeriod(s)), "7 true"},
		{"no bits of it", show(impl.KeyBits(s, 0)), `"" true`},
		{"one period and one bit", show(impl.KeyBits(s, 8)), `"11010011" true`},
		{"added to bits 0", show(impl.AddScramble(s, "0000")), `"1101" true`},
		{"added to bits 1", show(impl.AddScramble(s, "1111")), `"0010" true`},
		{"added to no bits", show(impl.AddScramble(s, "")), `"" true`},
		{"the least recent bit alone", show(impl.KeyBits(scramblerOf("001", 3), 7)), `"1001001" true`},
		{"the most recent bit alone", show(impl.KeyBits(scramblerOf("100", 3), 7)), `"0010010" true`},
		{"bits that are not tapped", show(impl.KeyBits(scramblerOf("0110", 4), 5)), `"01100" true`},
		{"the width 1", show(impl.KeyBits(scramblerOf("1", 1), 3)), `"111" true`},
		{"16 taps", show(impl.KeyBits(scramblerOf("1000000000000000", tapsFrom(1, 16)...), 18)), `"100000000000000011" true`},
	})
}

func TestPromise7KeysThatFail(t *testing.T) {
	s := scramblerOf("100", 1, 3)
	for _, count := range outside(400) {
		expect(t, []row{
			{fmt.Sprint("KeyBits ", count), show(impl.KeyBits(s, count)), noText},
			{fmt.Sprint("WorstBits ", count), show(impl.WorstBits(s, count)), noText},
		})
	}
	for _, count := range []int64{-401, -400, 1 << 32, 1<<32 + 4, math.MaxInt32, -1 << 32} {
		expect(t, []row{
			{fmt.Sprint("KeyBits ", count), show(impl.KeyBits(s, count)), noText},
			{fmt.Sprint("WorstBits ", count), show(impl.WorstBits(s, count)), noText},
		})
	}
}

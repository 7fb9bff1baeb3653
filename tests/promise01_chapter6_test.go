package tests

import (
	"math"
	"strings"
	"testing"

	"loop.example/g01142/impl"
)

var chapter6 = map[string]any{
	"ValidScrambler": impl.ValidScrambler,
	"KeyBits":        impl.KeyBits,
	"AddScramble":    impl.AddScramble,
	"SelfScramble":   impl.SelfScramble,
	"SelfDescramble": impl.SelfDescramble,
	"SpreadOf":       impl.SpreadOf,
	"ErrorsBehind":   impl.ErrorsBehind,
	"LockTime":       impl.LockTime,
	"WorstBits":      impl.WorstBits,
	"KeyPeriod":      impl.KeyPeriod,
	"FindKey":        impl.FindKey,
	"LongestSame":    impl.LongestSame,
}

var chapter6Numbers = []int64{
	math.MinInt64, -401, -1, 0, 1, 2, 3, 15, 16, 17, 399, 400, 401, 1 << 32, math.MaxInt64 - 1, math.MaxInt64,
}

var chapter6Texts = []string{
	"", "0", "1", "10", "100", "1101", "11010011", "012", "0\xff", strings.Repeat("1", 15), strings.Repeat("0", 16), strings.Repeat("10", 9),
	strings.Repeat("1", 400), strings.Repeat("01", 200), strings.Repeat("0", 401), strings.Repeat("01", 5000),
}

// scramblerPool has scramblers of all kinds, and some that are none.
func scramblerPool() []impl.Scrambler {
	scramblers := []impl.Scrambler{
		scramblerOf("0", 1), scramblerOf("1", 1), scramblerOf("100", 1, 3), scramblerOf("000", 1, 3), scramblerOf("0110", 4),
		scramblerOf("1000000000000000", 16), scramblerOf("0110100110010110", 4, 13, 15, 16), scramblerOf("1111111111111111", tapsFrom(1, 16)...),
	}
	return append(scramblers, invalidScramblers()...)
}

// tapPool has taps of all kinds, and lists that are none.
func tapPool() [][]int64 {
	return append([][]int64{{1}, {1, 3}, {4}, {16}, {4, 13, 15, 16}, tapsFrom(1, 16)}, invalidTaps()...)
}

func TestPromise1Chapter6(t *testing.T) {
	checkChapter(t, chapter6, poolsOf(pooled(chapter6Texts), pooled(chapter6Numbers), pooled(scramblerPool()), pooled(tapPool())))
}

func TestPromise1NilAndEmptyTapsAreTheSame(t *testing.T) {
	for _, state := range []string{"", "0", "100"} {
		none, empty := impl.Scrambler{State: state}, impl.Scrambler{Taps: []int64{}, State: state}
		expect(t, []row{
			{"ValidScrambler", show(impl.ValidScrambler(none)), show(impl.ValidScrambler(empty))},
			{"KeyBits", show(impl.KeyBits(none, 0)), show(impl.KeyBits(empty, 0))},
			{"SpreadOf", show(impl.SpreadOf(none)), show(impl.SpreadOf(empty))},
			{"LockTime", show(impl.LockTime(none)), show(impl.LockTime(empty))},
			{"FindKey", show(impl.FindKey(nil, state, state)), show(impl.FindKey([]int64{}, state, state))},
		})
	}
}

// Rings and sets of places of one call leave nothing to the next one, whatever has been called before it.
func TestPromise1ScramblersAreNotKept(t *testing.T) {
	taps := []int64{1, 3}
	s := impl.Scrambler{Taps: taps, State: "100"}
	calls := func() string {
		return strings.Join([]string{
			show(impl.KeyBits(s, 10)), show(impl.AddScramble(s, "1111")), show(impl.SelfScramble(s, "1000")), show(impl.SelfDescramble(s, "0011")),
			show(impl.ErrorsBehind(s, "1010000")), show(impl.WorstBits(s, 4)), show(impl.KeyPeriod(s)), show(impl.FindKey(taps, "0010", "1111")),
			show(impl.SpreadOf(s)), show(impl.LockTime(s)), show(impl.LongestSame("011101")),
		}, "; ")
	}
	first := calls()
	for _, other := range scramblerPool() {
		impl.KeyBits(other, 400)
		impl.SelfScramble(other, strings.Repeat("1", 400))
		impl.ErrorsBehind(other, strings.Repeat("1", 400))
		impl.KeyPeriod(other)
		impl.FindKey(other.Taps, other.State, other.State)
		if again := calls(); again != first {
			t.Fatalf("behind %v: got %s, and first %s", other, again, first)
		}
	}
	if taps[0] != 1 || taps[1] != 3 || s.State != "100" {
		t.Errorf("the arguments have become %v", s)
	}
}

// A result stays what it is when the taps from which it was made are overwritten behind the call.
func TestPromise1ResultsOfScramblersShareNoMemory(t *testing.T) {
	for name, call := range map[string]func(s impl.Scrambler) (string, bool){
		"KeyBits":      func(s impl.Scrambler) (string, bool) { return impl.KeyBits(s, 8) },
		"AddScramble":  func(s impl.Scrambler) (string, bool) { return impl.AddScramble(s, "11110000") },
		"SelfScramble": func(s impl.Scrambler) (string, bool) { return impl.SelfScramble(s, "11110000") },
		"ErrorsBehind": func(s impl.Scrambler) (string, bool) { return impl.ErrorsBehind(s, "11110000") },
		"WorstBits":    func(s impl.Scrambler) (string, bool) { return impl.WorstBits(s, 8) },
		"FindKey":      func(s impl.Scrambler) (string, bool) { return impl.FindKey(s.Taps, "00101100", "11111111") },
	} {
		s := scramblerOf("100", 1, 3)
		got, ok := call(s)
		before := strings.Clone(got)
		s.Taps[0] = 2
		if got != before || !ok {
			t.Errorf("%s: %s has become %s, %v", name, before, got, ok)
		}
		s.Taps[0] = 1
		if again, _ := call(s); again != before {
			t.Errorf("%s: returned %s, and then %s", name, before, again)
		}
	}
}

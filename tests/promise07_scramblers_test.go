package tests

import (
	"fmt"
	"math"
	"math/rand"
	"strings"
	"testing"

	"loop.example/g01142/impl"
)

// invalidTaps returns lists that are no taps.
func invalidTaps() [][]int64 {
	return [][]int64{
		nil, {}, {0}, {0, 1}, {0, 1, 3}, {-1}, {-1, 1}, {-3, 3}, {math.MinInt64}, {math.MinInt64, 3}, tapsFrom(0, 16), tapsFrom(-1, 16),
		{1, 1}, {3, 3}, {1, 1, 3}, {1, 3, 3}, {2, 2, 3}, repeated[int64](1, 16), repeated[int64](16, 17), make([]int64, 5000),
		{3, 1}, {2, 1, 3}, {1, 3, 2}, {1, 3, 2, 4}, {16, 1}, {1, 3, math.MinInt64},
		{17}, {1, 17}, {16, 17}, tapsFrom(1, 17), tapsFrom(2, 17), {18}, {400}, {257}, {1<<32 + 1}, {math.MaxInt64}, {1, 3, math.MaxInt64}, {math.MinInt64, math.MaxInt64},
	}
}

// invalidStates returns scramblers with taps that are right, and states that are not.
func invalidStates() []impl.Scrambler {
	zeros := strings.Repeat("0", 17)
	return []impl.Scrambler{
		scramblerOf("", 1), scramblerOf("10", 1), scramblerOf("", 1, 3), scramblerOf("1", 1, 3), scramblerOf("10", 1, 3), scramblerOf("1000", 1, 3),
		scramblerOf("", 16), scramblerOf(zeros[2:], 16), scramblerOf(zeros, 16), scramblerOf(strings.Repeat("0", 5000), 16),
		scramblerOf("1", tapsFrom(1, 16)...), scramblerOf(zeros[2:], tapsFrom(1, 16)...), scramblerOf(zeros, tapsFrom(1, 16)...),
		scramblerOf("2", 1), scramblerOf("/", 1), scramblerOf("\x00", 1), scramblerOf("\x01", 1), scramblerOf("102", 1, 3), scramblerOf("1 0", 1, 3),
		scramblerOf("210", 1, 3), scramblerOf("10\n", 1, 3), scramblerOf("10\xff", 1, 3), scramblerOf("\x00\x00\x00", 1, 3),
		scramblerOf("\u0661", 2), scramblerOf("\uff11", 3), scramblerOf(zeros[2:]+"2", 16), scramblerOf("2"+zeros[2:], 16),
	}
}

// invalidScramblers returns scramblers that every function refuses.
func invalidScramblers() []impl.Scrambler {
	list := invalidStates()
	for _, taps := range invalidTaps() {
		list = append(list, scramblerOf("", taps...), scramblerOf("1", taps...), scramblerOf("100", taps...), scramblerOf(strings.Repeat("1", 16), taps...))
		// Its greatest number, or its last one, would be a width.
		for _, tap := range taps[:min(len(taps), 20)] {
			if tap > 1 && tap <= 400 {
				list = append(list, scramblerOf(strings.Repeat("0", int(tap)), taps...))
			}
		}
	}
	return list
}

func TestPromise7ValidScramblers(t *testing.T) {
	source := rand.New(rand.NewSource(86))
	for _, s := range sampleScramblers(source) {
		expect(t, []row{{fmt.Sprint("ValidScrambler ", s), show(impl.ValidScrambler(s)), "true"}})
	}
}

// All lists of up to three numbers around the limits, with states of all lengths around them.
func TestPromise7ScramblersByTrying(t *testing.T) {
	for _, taps := range listsUpTo(3, -1, 0, 1, 2, 3, 15, 16, 17) {
		isSet := len(taps) > 0
		for i, tap := range taps {
			isSet = isSet && tap >= 1 && tap <= 16 && (i == 0 || taps[i-1] < tap)
		}
		for _, width := range []int{0, 1, 2, 3, 4, 14, 15, 16, 17} {
			state := strings.Repeat("1", width)
			want := isSet && taps[len(taps)-1] == int64(width)
			s := scramblerOf(state, taps...)
			expect(t, []row{{fmt.Sprint("ValidScrambler ", s), show(impl.ValidScrambler(s)), show(want)}})
			if _, ok := impl.KeyBits(s, 1); ok != want {
				t.Errorf("KeyBits %v: %v", s, ok)
			}
			if _, ok := impl.FindKey(taps, state, state); len(taps) > 0 && ok != (isSet && taps[len(taps)-1] <= int64(width)) {
				t.Errorf("FindKey %v for %d bits: %v", taps, width, ok)
			}
		}
	}
}

func TestPromise7InvalidScramblers(t *testing.T) {
	for _, s := range invalidScramblers() {
		name := fmt.Sprintf(" %v %q", s.Taps, s.State)
		expect(t, []row{
			{"ValidScrambler" + name, show(impl.ValidScrambler(s)), "false"},
			{"KeyBits" + name, show(impl.KeyBits(s, 4)), noText},
			{"KeyBits of none" + name, show(impl.KeyBits(s, 0)), noText},
			{"AddScramble" + name, show(impl.AddScramble(s, "1101")), noText},
			{"AddScramble of no bits" + name, show(impl.AddScramble(s, "")), noText},
			{"SelfScramble" + name, show(impl.SelfScramble(s, "1101")), noText},
			{"SelfScramble of no bits" + name, show(impl.SelfScramble(s, "")), noText},
			{"SelfDescramble" + name, show(impl.SelfDescramble(s, "1101")), noText},
			{"SelfDescramble of no bits" + name, show(impl.SelfDescramble(s, "")), noText},
			{"SpreadOf" + name, show(impl.SpreadOf(s)), noNumber},
			{"ErrorsBehind" + name, show(impl.ErrorsBehind(s, "1000")), noText},
			{"ErrorsBehind of none" + name, show(impl.ErrorsBehind(s, "")), noText},
			{"LockTime" + name, show(impl.LockTime(s)), noNumber},
			{"WorstBits" + name, show(impl.WorstBits(s, 4)), noText},
			{"WorstBits of none" + name, show(impl.WorstBits(s, 0)), noText},
			{"KeyPeriod" + name, show(impl.KeyPeriod(s)), noNumber},
		})
	}
}

func TestPromise7TextsThatAreNoBits(t *testing.T) {
	for _, s := range []impl.Scrambler{scramblerOf("1", 1), scramblerOf("100", 1, 3), scramblerOf("0000000000000000", 16)} {
		for _, text := range notBits {
			name := fmt.Sprintf(" %v %q", s, text)
			zeros := strings.Repeat("0", len(text))
			expect(t, []row{
				{"AddScramble" + name, show(impl.AddScramble(s, text)), noText},
				{"SelfScramble" + name, show(impl.SelfScramble(s, text)), noText},
				{"SelfDescramble" + name, show(impl.SelfDescramble(s, text)), noText},
				{"ErrorsBehind" + name, show(impl.ErrorsBehind(s, text)), noText},
				{"LongestSame" + name, show(impl.LongestSame(text)), noNumber},
				{"FindKey" + name, show(impl.FindKey(s.Taps, text, zeros)), noText},
				{"FindKey of plain" + name, show(impl.FindKey(s.Taps, zeros, text)), noText},
				{"FindKey of both" + name, show(impl.FindKey(s.Taps, text, text)), noText},
			})
		}
	}
}

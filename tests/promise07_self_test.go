package tests

import (
	"fmt"
	"math/rand"
	"strings"
	"testing"

	"loop.example/g01142/impl"
)

// selfReference returns what SelfScramble makes of bits.
func selfReference(s impl.Scrambler, bits string) string {
	sequence := sequenceBehind(s.State)
	for i := range len(bits) {
		sum := sumReference(s.Taps, sequence)
		sequence = append(sequence, differences(bits[i:i+1], string(sum))[0])
	}
	return string(sequence[len(s.State):])
}

// backReference returns what SelfDescramble makes of bits.
func backReference(s impl.Scrambler, bits string) string {
	sequence := append(sequenceBehind(s.State), bits...)
	plain := make([]byte, len(bits))
	for i := range plain {
		plain[i] = sumReference(s.Taps, sequence[:len(s.State)+i])
	}
	return differences(bits, string(plain))
}

// checkSelf compares what is made of bits, which come back from both directions.
func checkSelf(t *testing.T, s impl.Scrambler, bits string) {
	t.Helper()
	name := fmt.Sprint(s, " ", bits)
	sent, plain := selfReference(s, bits), backReference(s, bits)
	expect(t, []row{
		{"SelfScramble " + name, show(impl.SelfScramble(s, bits)), show(sent, true)},
		{"SelfDescramble " + name, show(impl.SelfDescramble(s, bits)), show(plain, true)},
		{"SelfDescramble of what is scrambled " + name, show(impl.SelfDescramble(s, sent)), show(bits, true)},
		{"SelfScramble of what is descrambled " + name, show(impl.SelfScramble(s, plain)), show(bits, true)},
	})
}

func TestPromise7BitsComeBack(t *testing.T) { eachBits(t, 87, checkSelf) }

// withChange returns a text with another bit at an index.
func withChange(s string, at int) string {
	return s[:at] + invertedBits(s[at:at+1]) + s[at+1:]
}

// checkLock compares what is made with another state than the one with which bits were scrambled.
func checkLock(t *testing.T, s impl.Scrambler, state, bits string) {
	t.Helper()
	width := min(len(s.State), len(bits))
	sent := selfReference(s, bits)
	other := impl.Scrambler{Taps: s.Taps, State: state}
	got, ok := impl.SelfDescramble(other, sent)
	expect(t, []row{{fmt.Sprint("SelfDescramble ", other, sent), show(got, ok), show(backReference(other, sent), true)}})
	if len(got) != len(bits) || got[width:] != bits[width:] {
		t.Errorf("%v scrambles %s, which %s descrambles as %s", s, bits, state, got)
	}
	// Only the bit in front of a descrambler that has locked still depends on
	// the bit that came just before the first one.
	if len(bits) >= len(s.State) && state == withChange(s.State, 0) && got[width-1] == bits[width-1] {
		t.Errorf("%v scrambles %s, which %s descrambles too soon as %s", s, bits, state, got)
	}
}

func TestPromise7AllDescramblersLock(t *testing.T) {
	source := rand.New(rand.NewSource(88))
	for _, s := range smallScramblers(4) {
		expect(t, []row{{fmt.Sprint("LockTime ", s), show(impl.LockTime(s)), show(len(s.State), true)}})
		for _, state := range textsOf(int64(len(s.State))) {
			for _, length := range lengthsAround(s)[:7] {
				checkLock(t, s, state, drawnBits(source, length))
			}
		}
	}
}

func TestPromise7LargeDescramblersLock(t *testing.T) {
	source := rand.New(rand.NewSource(89))
	for _, s := range largeScramblers(source) {
		width := int64(len(s.State))
		expect(t, []row{{fmt.Sprint("LockTime ", s), show(impl.LockTime(s)), show(width, true)}})
		states := append(statesOf(source, width), invertedBits(s.State))
		for at := range s.State {
			states = append(states, withChange(s.State, at))
		}
		for _, state := range states {
			checkLock(t, s, state, drawnBits(source, width+1))
			checkLock(t, s, state, drawnBits(source, 400))
		}
	}
}

func TestPromise7WorstBits(t *testing.T) {
	source := rand.New(rand.NewSource(90))
	for _, s := range sampleScramblers(source) {
		worst := backReference(s, strings.Repeat("0", 400))
		for _, count := range lengthsAround(s) {
			expect(t, []row{
				{fmt.Sprint("WorstBits ", s, count), show(impl.WorstBits(s, count)), show(worst[:count], true)},
				{fmt.Sprint("SelfScramble of worst bits ", s, count), show(impl.SelfScramble(s, worst[:count])), show(strings.Repeat("0", int(count)), true)},
			})
		}
		// Behind as many bits as the width, nothing is left of the state.
		if strings.Contains(worst[len(s.State):], "1") {
			t.Errorf("%v: the reference is %s", s, worst)
		}
	}
}

// Of all bits, only the worst ones become bits 0.
func TestPromise7WorstBitsByTrying(t *testing.T) {
	for _, s := range smallScramblers(4) {
		for length := range int64(7) {
			zeros := strings.Repeat("0", int(length))
			for _, bits := range textsOf(length) {
				if selfReference(s, bits) == zeros {
					expect(t, []row{{fmt.Sprint("WorstBits ", s, length), show(impl.WorstBits(s, length)), show(bits, true)}})
				}
			}
		}
	}
}

func TestPromise7SelfExamples(t *testing.T) {
	s := scramblerOf("100", 1, 3)
	zeros := strings.Repeat("0", 16)
	expect(t, []row{
		{"scrambled", show(impl.SelfScramble(s, "1000")), `"0011" true`},
		{"descrambled", show(impl.SelfDescramble(s, "0011")), `"1000" true`},
		{"descrambled with another state", show(impl.SelfDescramble(scramblerOf("000", 1, 3), "0011")), `"0010" true`},
		{"no bits scrambled", show(impl.SelfScramble(s, "")), `"" true`},
		{"no bits descrambled", show(impl.SelfDescramble(s, "")), `"" true`},
		{"a state of zeros scrambles", show(impl.SelfScramble(scramblerOf("000", 1, 3), "1000000")), `"1110100" true`},
		{"a state of zeros descrambles", show(impl.SelfDescramble(scramblerOf("000", 1, 3), "1000000")), `"1101000" true`},
		{"the width 1", show(impl.SelfScramble(scramblerOf("0", 1), "1011")), `"1101" true`},
		{"the width 1 with a bit 1", show(impl.SelfScramble(scramblerOf("1", 1), "1011")), `"0010" true`},
		{"the width 16", show(impl.SelfScramble(scramblerOf(zeros[1:]+"1", 16), zeros+"0")), `"10000000000000001" true`},
		{"the time to lock", show(impl.LockTime(s)), "3 true"},
		{"the least time to lock", show(impl.LockTime(scramblerOf("0", 1))), "1 true"},
		{"the greatest time to lock", show(impl.LockTime(scramblerOf(zeros, 16))), "16 true"},
		{"worst bits", show(impl.WorstBits(s, 4)), `"1010" true`},
		{"no worst bits", show(impl.WorstBits(s, 0)), `"" true`},
		{"worst bits of the width 16", show(impl.WorstBits(scramblerOf("1"+zeros[1:], 16), 18)), `"000000000000000100" true`},
	})
}

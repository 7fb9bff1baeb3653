package tests

import (
	"fmt"
	"math"
	"math/rand"
	"strings"
	"testing"

	"loop.example/g01142/impl"
)

// notVotes are numbers that no bit can be repeated for.
var notVotes = []int64{
	0, 2, 4, 6, 8, 10, 12, 14, 16, 17, 19, 400, 401, -1, -2, -3, -15, 1 << 32, 1<<32 + 1, 1<<32 + 3, -1<<32 + 3,
	math.MinInt64, math.MinInt64 + 1, math.MinInt64 + 3, math.MaxInt64 - 1, math.MaxInt64,
}

// repeatReference returns bits, each of them several times, of any number.
func repeatReference(bits string, times int64) string {
	same := func(digit string) string { return strings.Repeat(digit, int(times)) }
	return strings.NewReplacer("0", same("0"), "1", same("1")).Replace(bits)
}

// voteReference returns for each block the bit that stands in the middle when the bits of the block are in order.
func voteReference(bits string, times int64) string {
	voted := ""
	for ; bits != ""; bits = bits[times:] {
		block := bits[:times]
		sorted := strings.ReplaceAll(block, "1", "") + strings.ReplaceAll(block, "0", "")
		voted += sorted[times/2 : times/2+1]
	}
	return voted
}

func checkRepeating(t *testing.T, bits string, times int64) {
	t.Helper()
	long := repeatReference(bits, times)
	want := show(long, true)
	if len(long) > 400 {
		want = noText
	}
	expect(t, []row{{fmt.Sprint("RepeatBits ", bits, times), show(impl.RepeatBits(bits, times)), want}})
	if len(long) <= 400 {
		expect(t, []row{{fmt.Sprint("VoteBits ", long, times), show(impl.VoteBits(long, times)), show(bits, true)}})
	}
}

func TestPromise8RepeatedBits(t *testing.T) {
	source := rand.New(rand.NewSource(131))
	for times := int64(1); times <= 15; times += 2 {
		for _, bits := range textsUpTo(7) {
			checkRepeating(t, bits, times)
		}
		most := 400 / times
		for _, length := range []int64{most - 1, most, min(most+1, 400), min(2*most, 400), 399, 400} {
			for _, bits := range longTexts(source, length) {
				checkRepeating(t, bits, times)
			}
		}
	}
}

func TestPromise8AllShortVotes(t *testing.T) {
	for times := int64(1); times <= 9; times += 2 {
		for _, bits := range textsUpTo(10) {
			want := noText
			if int64(len(bits))%times == 0 {
				want = show(voteReference(bits, times), true)
			}
			expect(t, []row{{fmt.Sprint("VoteBits ", bits, times), show(impl.VoteBits(bits, times)), want}})
		}
	}
}

func TestPromise8LongVotes(t *testing.T) {
	source := rand.New(rand.NewSource(132))
	for times := int64(1); times <= 15; times += 2 {
		for _, length := range []int64{11, 13, 15, 26, 30, 45, 105, 385, 390, 391, 396, 397, 399, 400} {
			for _, bits := range longTexts(source, length) {
				want := noText
				if length%times == 0 {
					want = show(voteReference(bits, times), true)
				}
				expect(t, []row{{fmt.Sprint("VoteBits ", bits, times), show(impl.VoteBits(bits, times)), want}})
			}
		}
	}
}

// withChanges returns a block of equal bits with some of them changed, from an index on and around.
func withChanges(digit string, times, changed, from int64) string {
	block := strings.Repeat(invertedBits(digit), int(changed)) + strings.Repeat(digit, int(times-changed))
	return block[from:] + block[:from]
}

// Bits come back if less than half of each block is changed, and they are inverted if it is more.
func TestPromise8ChangedBlocks(t *testing.T) {
	source := rand.New(rand.NewSource(133))
	for times := int64(1); times <= 15; times += 2 {
		for changed := int64(0); changed <= times; changed++ {
			bits := drawnBits(source, 400/times)
			sent := ""
			for _, digit := range bits {
				sent += withChanges(string(digit), times, changed, source.Int63n(times))
			}
			want := bits
			if changed > times/2 {
				want = invertedBits(bits)
			}
			expect(t, []row{{fmt.Sprint("VoteBits ", sent, times, " changed ", changed), show(impl.VoteBits(sent, times)), show(want, true)}})
		}
		for from := range times {
			for _, digit := range []string{"0", "1"} {
				most := withChanges(digit, times, times/2, from)
				expect(t, []row{{"VoteBits " + most, show(impl.VoteBits(most, times)), show(digit, true)}})
			}
		}
	}
}

func TestPromise8VoteExamples(t *testing.T) {
	zeros := strings.Repeat("0", 401)
	ones := strings.Repeat("1", 401)
	expect(t, []row{
		{"repeated", show(impl.RepeatBits("01", 3)), `"000111" true`},
		{"voted", show(impl.VoteBits("010101", 3)), `"01" true`},
		{"no bits repeated", show(impl.RepeatBits("", 3)), `"" true`},
		{"no bits voted", show(impl.VoteBits("", 3)), `"" true`},
		{"repeated once", show(impl.RepeatBits("0110", 1)), `"0110" true`},
		{"voted alone", show(impl.VoteBits("0110", 1)), `"0110" true`},
		{"repeated 15 times", show(impl.RepeatBits("1", 15)), show(ones[:15], true)},
		{"won by one bit 1", show(impl.VoteBits(ones[:8]+zeros[:7], 15)), `"1" true`},
		{"won by one bit 0", show(impl.VoteBits(ones[:7]+zeros[:8], 15)), `"0" true`},
		{"a block too short", show(impl.VoteBits("0101", 3)), noText},
		{"a block too short by one", show(impl.VoteBits("01011", 3)), noText},
		{"less than a block", show(impl.VoteBits("01", 3)), noText},
		{"repeated twice", show(impl.RepeatBits("01", 2)), noText},
		{"voted by two", show(impl.VoteBits("0101", 2)), noText},
		{"400 bits repeated once", show(impl.RepeatBits(zeros[:400], 1)), show(zeros[:400], true)},
		{"401 bits repeated once", show(impl.RepeatBits(zeros, 1)), noText},
		{"80 bits repeated 5 times", show(impl.RepeatBits(ones[:80], 5)), show(ones[:400], true)},
		{"81 bits repeated 5 times", show(impl.RepeatBits(ones[:81], 5)), noText},
		{"133 bits repeated 3 times", show(impl.RepeatBits(ones[:133], 3)), show(ones[:399], true)},
		{"134 bits repeated 3 times", show(impl.RepeatBits(ones[:134], 3)), noText},
		{"26 bits repeated 15 times", show(impl.RepeatBits(zeros[:26], 15)), show(zeros[:390], true)},
		{"27 bits repeated 15 times", show(impl.RepeatBits(zeros[:27], 15)), noText},
		{"400 bits voted", show(impl.VoteBits(ones[:400], 5)), show(ones[:80], true)},
		{"405 bits voted", show(impl.VoteBits(strings.Repeat("1", 405), 5)), noText},
		{"401 bits voted alone", show(impl.VoteBits(ones, 1)), noText},
	})
}

func TestPromise8VotesThatFail(t *testing.T) {
	for _, times := range notVotes {
		for _, bits := range []string{"", "0", "01", "0101", "010101", strings.Repeat("1", 16), strings.Repeat("1", 34), strings.Repeat("0", 400)} {
			expect(t, []row{
				{fmt.Sprint("RepeatBits ", bits, times), show(impl.RepeatBits(bits, times)), noText},
				{fmt.Sprint("VoteBits ", bits, times), show(impl.VoteBits(bits, times)), noText},
			})
		}
	}
	for _, text := range notBits {
		expect(t, []row{
			{"RepeatBits once " + text, show(impl.RepeatBits(text, 1)), noText},
			{"RepeatBits 3 times " + text, show(impl.RepeatBits(text, 3)), noText},
			{"VoteBits alone " + text, show(impl.VoteBits(text, 1)), noText},
			{"VoteBits of three " + text, show(impl.VoteBits(text+text+text, 3)), noText},
		})
	}
}

package tests

import (
	"fmt"
	"math/rand"
	"strings"
	"testing"

	"loop.example/g01142/impl"
)

// stateByTrying returns the state with which a key begins with some bits, if there is one.
func stateByTrying(taps []int64, key string) string {
	for _, state := range textsOf(taps[len(taps)-1]) {
		if keyReference(scramblerOf(state, taps...), int64(len(key))) == key {
			return show(state, true)
		}
	}
	return noText
}

func TestPromise7AllShortKeysAreFound(t *testing.T) {
	source := rand.New(rand.NewSource(96))
	counts := map[bool]int{}
	for width := int64(1); width <= 4; width++ {
		for _, taps := range tapSets(width) {
			for _, key := range textsUpTo(8) {
				want := noText
				if int64(len(key)) >= width {
					want = stateByTrying(taps, key)
				}
				counts[want == noText]++
				plain := drawnBits(source, int64(len(key)))
				expect(t, []row{{fmt.Sprint("FindKey ", taps, key, plain), show(impl.FindKey(taps, differences(plain, key), plain)), want}})
			}
		}
	}
	if counts[true] < 1000 || counts[false] < 500 {
		t.Errorf("%v", counts)
	}
}

func TestPromise7KeysOfLargeScramblersAreFound(t *testing.T) {
	source := rand.New(rand.NewSource(97))
	for _, s := range largeScramblers(source) {
		width := int64(len(s.State))
		for _, length := range lengthsAround(s) {
			plain := drawnBits(source, length)
			want := show(s.State, true)
			if length < width {
				want = noText
			}
			sent, _ := impl.AddScramble(s, plain)
			expect(t, []row{
				{fmt.Sprint("FindKey ", s, plain), show(impl.FindKey(s.Taps, sent, plain)), want},
				{fmt.Sprint("FindKey turned ", s, plain), show(impl.FindKey(s.Taps, plain, sent)), want},
			})
		}
	}
}

// isChangeSeen reports whether a key of some length is none any more when one bit
// has been changed: it is another one if no tap leads from the bit to one that
// is the sum of earlier bits of the key.
func isChangeSeen(taps []int64, length, at int) bool {
	width := int(taps[len(taps)-1])
	isSeen := at >= width
	for _, tap := range taps {
		isSeen = isSeen || width <= at+int(tap) && at+int(tap) < length
	}
	return isSeen
}

// checkChanges looks for the state behind a key of which one bit has been changed, and returns for how many bits there is none.
func checkChanges(t *testing.T, s impl.Scrambler, length int) int {
	t.Helper()
	count := 0
	key, zeros := keyReference(s, int64(length)), strings.Repeat("0", length)
	for at := range length {
		changed := withChange(key, at)
		state, ok := impl.FindKey(s.Taps, changed, zeros)
		name := fmt.Sprint("FindKey ", s, length, " changed at ", at)
		if isChangeSeen(s.Taps, length, at) {
			count++
			expect(t, []row{{name, show(state, ok), noText}})
		} else if !ok || len(state) != len(s.State) || keyReference(scramblerOf(state, s.Taps...), int64(length)) != changed {
			t.Errorf("%s: got %s %v", name, state, ok)
		}
	}
	return count
}

func TestPromise7ChangedKeys(t *testing.T) {
	source := rand.New(rand.NewSource(98))
	seen := 0
	for _, s := range sampleScramblers(source) {
		width := len(s.State)
		for _, length := range []int{width, width + 1, width + 2, 2*width - 1, 2 * width, 2*width + 1} {
			seen += checkChanges(t, s, length)
		}
	}
	for _, s := range []impl.Scrambler{
		scramblerOf("1", 1), scramblerOf("100", 1, 3), scramblerOf("1000000000000000", 16), scramblerOf("0110100110010110", 4, 13, 15, 16),
	} {
		seen += checkChanges(t, s, 400)
	}
	if seen < 10000 {
		t.Errorf("only %d changed keys are none", seen)
	}
}

// Keys of states that differ in one bit can agree in all bits but the last one of the width.
func TestPromise7KeysThatAgreeForLong(t *testing.T) {
	source := rand.New(rand.NewSource(99))
	longest := 0
	for _, s := range largeScramblers(source) {
		for at := range s.State {
			other := scramblerOf(withChange(s.State, at), s.Taps...)
			key, otherKey := keyReference(s, 400), keyReference(other, 400)
			agreed := strings.Index(differences(key, otherKey), "1")
			longest = max(longest, agreed)
			for _, length := range []int{len(s.State), 400} {
				plain := drawnBits(source, int64(length))
				expect(t, []row{
					{fmt.Sprint("FindKey ", s, agreed), show(impl.FindKey(s.Taps, differences(plain, key[:length]), plain)), show(s.State, true)},
					{fmt.Sprint("FindKey ", other, agreed), show(impl.FindKey(s.Taps, differences(plain, otherKey[:length]), plain)), show(other.State, true)},
				})
			}
		}
	}
	if longest != 15 {
		t.Errorf("two keys agree for %d bits", longest)
	}
}

// What is no key can agree with one for as many bits as the width, or for all bits but the last one.
func TestPromise7KeysThatChangeLate(t *testing.T) {
	zeros := strings.Repeat("0", 400)
	for _, r := range []struct {
		taps []int64
		key  string
		want string
	}{
		{[]int64{16}, zeros[:15] + "1", `"1000000000000000" true`},
		{[]int64{16}, zeros[:15] + "1" + zeros[:15] + "1", `"1000000000000000" true`},
		{[]int64{16}, zeros[:15] + "1" + zeros[:16], noText},
		{[]int64{16}, zeros[:16] + "1", noText},
		{[]int64{16}, "1" + zeros[:15] + "1", `"0000000000000001" true`},
		{[]int64{16}, "1" + zeros[:15] + "0", noText},
		{[]int64{16}, strings.Repeat("1"+zeros[:15], 25), `"0000000000000001" true`},
		{[]int64{16}, strings.Repeat("1"+zeros[:15], 24) + zeros[:16], noText},
		{[]int64{16}, strings.Repeat("1"+zeros[:15], 24) + "1" + zeros[:14] + "1", noText},
		{[]int64{1}, zeros, `"0" true`},
		{[]int64{1}, strings.Repeat("1", 400), `"1" true`},
		{[]int64{1}, zeros[:399] + "1", noText},
		{[]int64{1}, "1" + zeros[:399], noText},
		{[]int64{1, 3}, "1101001", `"100" true`},
		{[]int64{1, 3}, "1101000", noText},
		{[]int64{1, 3}, zeros[:399] + "1", noText},
	} {
		plain := zeros[:len(r.key)]
		expect(t, []row{
			{fmt.Sprint("FindKey ", r.taps, r.key), show(impl.FindKey(r.taps, r.key, plain)), r.want},
			{fmt.Sprint("FindKey of plain ", r.taps, r.key), show(impl.FindKey(r.taps, plain, r.key)), r.want},
		})
	}
}

func TestPromise7FoundExamples(t *testing.T) {
	taps := []int64{1, 3}
	rows := []row{
		{"the state of the document", show(impl.FindKey(taps, "0010", "1111")), `"100" true`},
		{"as many bits as the width", show(impl.FindKey(taps, "110", "000")), `"100" true`},
		{"one bit more", show(impl.FindKey(taps, "1101", "0000")), `"100" true`},
		{"one bit fewer", show(impl.FindKey(taps, "11", "00")), noText},
		{"no bits", show(impl.FindKey(taps, "", "")), noText},
		{"no bits of the width 1", show(impl.FindKey([]int64{1}, "", "")), noText},
		{"one bit of the width 1", show(impl.FindKey([]int64{1}, "1", "0")), `"1" true`},
		{"15 bits of the width 16", show(impl.FindKey([]int64{16}, strings.Repeat("1", 15), strings.Repeat("0", 15))), noText},
		{"16 bits of the width 16", show(impl.FindKey([]int64{16}, strings.Repeat("1", 16), strings.Repeat("0", 16))), show(strings.Repeat("1", 16), true)},
		{"bits that no state makes", show(impl.FindKey(taps, "1100", "0000")), noText},
		{"bits that are not as long", show(impl.FindKey(taps, "1101", "00000")), noText},
		{"plain bits that are not as long", show(impl.FindKey(taps, "11010", "0000")), noText},
		{"no plain bits", show(impl.FindKey(taps, "1101", "")), noText},
		{"400 bits", show(impl.FindKey([]int64{1}, strings.Repeat("1", 400), strings.Repeat("0", 400))), `"1" true`},
		{"401 bits", show(impl.FindKey([]int64{1}, strings.Repeat("1", 401), strings.Repeat("0", 401))), noText},
	}
	for _, taps := range invalidTaps() {
		for _, key := range []string{"", "1", "110", strings.Repeat("1", 16), strings.Repeat("0", 17), strings.Repeat("1", 400)} {
			zeros := strings.Repeat("0", len(key))
			rows = append(rows, row{fmt.Sprint("the taps ", taps, key), show(impl.FindKey(taps, key, zeros)), noText})
		}
	}
	expect(t, rows)
}

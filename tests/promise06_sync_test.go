package tests

import (
	"fmt"
	"math/rand"
	"slices"
	"strings"
	"testing"

	"loop.example/g01142/impl"
)

// beginnings returns what readers of words can have read of a word.
func beginnings(words []string) []string {
	list := []string{}
	for _, word := range words {
		for i := range len(word) {
			list = append(list, word[:i])
		}
	}
	slices.Sort(list)
	return slices.Compact(list)
}

// readersOf returns what readers have read of a word behind further bits.
func readersOf(words, readers []string, bits string) []string {
	var behind []string
	for _, read := range readers {
		for _, digit := range bits {
			read += string(digit)
			if slices.Contains(words, read) {
				read = ""
			}
		}
		behind = append(behind, read)
	}
	slices.Sort(behind)
	return slices.Compact(behind)
}

// syncReference returns the shortest synchronising word; sets of readers are told apart by their texts.
func syncReference(words []string) (string, bool) {
	type set struct {
		readers []string
		bits    string
	}
	sets := []set{{beginnings(words), ""}}
	seen := map[string]bool{}
	for i := 0; i < len(sets); i++ {
		for _, bit := range []string{"0", "1"} {
			readers := readersOf(words, sets[i].readers, bit)
			if len(readers) == 1 && readers[0] == "" {
				return sets[i].bits + bit, true
			}
			if key := strings.Join(readers, ","); !seen[key] {
				seen[key] = true
				sets = append(sets, set{readers, sets[i].bits + bit})
			}
		}
	}
	return "", false
}

// canMeet reports whether any two readers can come together. Together, they can
// read on to the end of a word: so this is whether there is a synchronising word.
func canMeet(words []string) bool {
	all := beginnings(words)
	meeting := map[[2]string]bool{}
	for isNew := true; isNew; {
		isNew = false
		for _, a := range all {
			for _, b := range all {
				pair := [2]string{a, b}
				for _, bit := range []string{"0", "1"} {
					x, y := readersOf(words, []string{a}, bit)[0], readersOf(words, []string{b}, bit)[0]
					if !meeting[pair] && (x == y || meeting[[2]string{x, y}]) {
						meeting[pair] = true
						isNew = true
					}
				}
			}
		}
	}
	return len(meeting) == len(all)*len(all)
}

// checkSync compares the synchronising word of a complete code with that of syncReference, and returns its length.
func checkSync(t *testing.T, words []string) int {
	t.Helper()
	want, ok := syncReference(words)
	expect(t, []row{{fmt.Sprint("SyncWord ", words), show(impl.SyncWord(words)), show(want, ok)}})
	if ok != canMeet(words) {
		t.Errorf("%v: %q %v is no synchronising word", words, want, ok)
	}
	// Each reader has read the end of a word behind it, also one of other bits before.
	for _, read := range beginnings(words) {
		if behind := readersOf(words, []string{read}, want); ok && behind[0] != "" {
			t.Errorf("%v: %s leads from %s to %v", words, want, read, behind)
		}
	}
	return len(want)
}

func TestPromise6SyncWordsByTrying(t *testing.T) {
	texts := textsUpTo(8)[1:]
	for count := 2; count <= 6; count++ {
		for _, words := range completeCodes(count) {
			want := noText
			for _, s := range texts {
				if behind := readersOf(words, beginnings(words), s); len(behind) == 1 && behind[0] == "" {
					want = show(s, true)
					break
				}
			}
			got, ok := impl.SyncWord(words)
			if show(got, ok) != want && !(ok && want == noText && len(got) > 8) {
				t.Errorf("SyncWord %v: got %s %v, want %s", words, got, ok, want)
			}
		}
	}
}

func TestPromise6SyncWordsOfSmallCodes(t *testing.T) {
	source := rand.New(rand.NewSource(72))
	counts := map[bool]int{}
	for count := 2; count <= 8; count++ {
		for _, words := range completeCodes(count) {
			counts[checkSync(t, shuffled(source, words)) > 0]++
		}
	}
	if counts[true] < 500 || counts[false] < 5 {
		t.Errorf("%v", counts)
	}
}

func TestPromise6SyncWordsOfLargeCodes(t *testing.T) {
	source := rand.New(rand.NewSource(73))
	for _, words := range sampleComplete(source, 6) {
		checkSync(t, words)
	}
	for range 100 {
		checkSync(t, drawnComplete(source, 16, source.Intn(2) == 0))
	}
}

// regrown returns a complete code in which two words have become their common beginning, and another word two.
func regrown(source *rand.Rand, words []string) []string {
	list := shuffled(source, words)
	at := slices.IndexFunc(list, func(word string) bool {
		beginning, isZero := strings.CutSuffix(word, "0")
		return isZero && slices.Contains(list, beginning+"1")
	})
	beginning := list[at][:len(list[at])-1]
	list = slices.DeleteFunc(list, func(word string) bool { return word == beginning+"0" || word == beginning+"1" })
	at = slices.IndexFunc(list, func(word string) bool { return len(word) < 12 })
	grown := list[at]
	return append(slices.Delete(list, at, at+1), grown+"0", grown+"1", beginning)
}

func TestPromise6LongSyncWords(t *testing.T) {
	source := rand.New(rand.NewSource(75))
	for _, text := range []string{
		"011111111110 01110 000 0110 01111110 011111110 011111111111 0111111110 001 100 11 01111111110 101 010 0111110 011110",
		"100001 100000000001 111 100000001 1001 101 100000000000 10001 10000000001 110 011 1000001 010 00 10000001 1000000001",
	} {
		words := strings.Fields(text)
		if length := checkSync(t, words); length != 23 {
			t.Errorf("%v: the reference has a synchronising word of %d bits", words, length)
		}
		for range 30 {
			words = regrown(source, words)
			checkSync(t, words)
		}
	}
}

// If the lengths of all words have a divisor, readers whose rests differ by no multiple of it never meet.
func TestPromise6CodesWithoutSyncWord(t *testing.T) {
	source := rand.New(rand.NewSource(74))
	pairs, threes := textsUpTo(2)[3:], textsUpTo(3)[7:]
	codes := [][]string{pairs, threes, textsUpTo(4)[15:], slices.Concat(threes[:7], withBit("111", threes))}
	for len(pairs) <= 13 {
		at := source.Intn(len(pairs))
		pairs = slices.Concat(pairs[:at], withBit(pairs[at], textsUpTo(2)[3:]), pairs[at+1:])
		codes = append(codes, pairs)
	}
	for _, words := range codes {
		expect(t, []row{
			{fmt.Sprint("IsCompleteCode ", words), show(impl.IsCompleteCode(words)), "true"},
			{fmt.Sprint("SyncWord ", words), show(impl.SyncWord(words)), noText},
		})
		checkSync(t, words)
	}
}

func TestPromise6SyncWordsOfExamples(t *testing.T) {
	expect(t, []row{
		{"the document's words", show(impl.SyncWord([]string{"0", "10", "11"})), `"0" true`},
		{"words of one bit", show(impl.SyncWord([]string{"0", "1"})), `"0" true`},
		{"the same words in another order", show(impl.SyncWord([]string{"1", "0"})), `"0" true`},
		{"the other bit", show(impl.SyncWord([]string{"1", "00", "01"})), `"1" true`},
		{"words of up to three bits", show(impl.SyncWord([]string{"0", "10", "110", "111"})), `"0" true`},
		{"all words of two bits", show(impl.SyncWord([]string{"00", "01", "10", "11"})), noText},
		{"longer words", show(impl.SyncWord([]string{"00", "01", "10", "110", "111"})), `"0110" true`},
		{"a code of one word", show(impl.SyncWord([]string{"0"})), noText},
		{"a prefix code that is not complete", show(impl.SyncWord([]string{"0", "10"})), noText},
		{"no prefix code", show(impl.SyncWord([]string{"0", "01", "10"})), noText},
		{"a suffix code with the sum 1", show(impl.SyncWord([]string{"0", "01", "11"})), noText},
		{"a sum above 1", show(impl.SyncWord([]string{"0", "1", "10"})), noText},
		{"words up to 12 bits", show(impl.SyncWord(append(onesThenZero(12), strings.Repeat("1", 12)))), `"0" true`},
	})
}

// onesThenZero returns the words of 0 to most - 1 bits 1, and a bit 0.
func onesThenZero(most int) []string {
	words := make([]string, most)
	for i := range words {
		words[i] = strings.Repeat("1", i) + "0"
	}
	return words
}

package tests

import (
	"fmt"
	"math/rand"
	"slices"
	"strings"
	"testing"

	"loop.example/g01142/impl"
)

// split is what happens in slots if sets of stations are split one after another.
type split struct {
	coins       []string
	sent, order []int64
	isOut       bool
}

// visit splits a set of stations that have taken so many coins: those with 0 and all that comes of
// them are first, and those with 1 wait for them.
func (s *split) visit(set []int64, taken int) {
	s.sent = append(s.sent, int64(len(set)))
	if len(set) == 1 {
		s.order = append(s.order, set[0])
	}
	if len(set) < 2 {
		return
	}
	parts := map[byte][]int64{}
	for _, n := range set {
		if taken == len(s.coins[n]) {
			s.isOut = true
			return
		}
		coin := s.coins[n][taken]
		parts[coin] = append(parts[coin], n)
	}
	s.visit(parts['0'], taken+1)
	if !s.isOut {
		s.visit(parts['1'], taken+1)
	}
}

// splitReference returns what SplitRun must show.
func splitReference(coins []string) string {
	s := split{coins: coins}
	s.visit(counting(len(coins)), 0)
	if s.isOut || len(s.sent) > 300 {
		return noRun
	}
	return show(s.sent, s.order, true)
}

// checkSplit compares a run with the reference, and returns whether it succeeds.
func checkSplit(t *testing.T, coins []string) bool {
	t.Helper()
	sent, order, ok := impl.SplitRun(coins)
	if got, want := show(sent, order, ok), splitReference(coins); got != want {
		t.Errorf("SplitRun %q: got %s, want %s", coins, got, want)
		return ok
	}
	if !ok {
		return false
	}
	alone := 0
	for _, count := range sent {
		if count == 1 {
			alone++
		}
	}
	if alone != len(coins) || !slices.Equal(slices.Sorted(slices.Values(order)), counting(len(coins))) {
		t.Errorf("SplitRun %q: one alone sends in %d slots, and %v have succeeded", coins, alone, order)
	}
	return true
}

func TestPromise10SmallSplits(t *testing.T) {
	for _, c := range []struct{ stations, length int }{{1, 6}, {2, 5}, {3, 3}, {4, 2}, {5, 1}} {
		texts := textsUpTo(c.length)
		eachChoice(c.stations, len(texts), func(choice []int) {
			coins := make([]string, c.stations)
			for n, at := range choice {
				coins[n] = texts[at]
			}
			checkSplit(t, coins)
		})
	}
}

func TestPromise10DrawnSplits(t *testing.T) {
	source := rand.New(rand.NewSource(194))
	succeeded, failed := 0, 0
	for stations := 1; stations <= 12; stations++ {
		for _, length := range []int64{1, 2, 3, 4, 6, 9, 20, 39, 40} {
			for range 60 {
				coins := make([]string, stations)
				same := drawnBits(source, source.Int63n(length+1))
				for n := range coins {
					coins[n] = drawnBits(source, length)
					// Stations with equal first coins go on together for a time.
					if source.Intn(2) == 0 {
						coins[n] = same + coins[n][len(same):]
					}
				}
				if checkSplit(t, coins) {
					succeeded++
				} else {
					failed++
				}
			}
		}
	}
	if succeeded < 1500 || failed < 1500 {
		t.Errorf("only %d runs succeed, and %d fail", succeeded, failed)
	}
}

// Coins that split all stations succeed in the order of the numbers that their coins are.
func TestPromise10SplitsInOrder(t *testing.T) {
	source := rand.New(rand.NewSource(195))
	for range 1000 {
		stations := 1 + source.Intn(12)
		coins := map[string]int64{}
		var texts []string
		for len(texts) < stations {
			if text := drawnBits(source, 8); !slices.Contains(texts, text) {
				coins[text] = int64(len(texts))
				texts = append(texts, text)
			}
		}
		_, order, ok := impl.SplitRun(texts)
		var want []int64
		for _, text := range slices.Sorted(slices.Values(texts)) {
			want = append(want, coins[text])
		}
		if !ok || !slices.Equal(order, want) {
			t.Errorf("SplitRun %q: got %v %v, want %v", texts, order, ok, want)
		}
	}
}

// Coins behind those that a station needs change nothing, and one coin less makes the run fail.
func TestPromise10SplitsTakeTheCoinsTheyNeed(t *testing.T) {
	source := rand.New(rand.NewSource(196))
	for range 300 {
		stations := 2 + source.Intn(6)
		coins := make([]string, stations)
		for n := range coins {
			coins[n] = drawnBits(source, 40)
		}
		sent, order, ok := impl.SplitRun(coins)
		if !ok {
			continue
		}
		for n := range coins {
			needed := 0
			for other := range coins {
				if other != n {
					needed = max(needed, sameBeginning(coins[n], coins[other])+1)
				}
			}
			for length := range 41 {
				fewer := slices.Clone(coins)
				fewer[n] = coins[n][:length]
				want := noRun
				if length >= needed {
					want = show(sent, order, ok)
				}
				expect(t, []row{{fmt.Sprintf("SplitRun %q", fewer), show(impl.SplitRun(fewer)), want}})
			}
		}
	}
}

// sameBeginning returns how many first bytes two texts have in common.
func sameBeginning(a, b string) int {
	same := 0
	for same < len(a) && same < len(b) && a[same] == b[same] {
		same++
	}
	return same
}

// pairsTogether returns coins of four pairs of stations: either pair goes on together for some slots.
func pairsTogether(together ...int) []string {
	var coins []string
	for n, first := range []string{"00", "01", "10", "11"} {
		same := first + strings.Repeat("01", 20)[:together[n]-1]
		coins = append(coins, same+"0", same+"1")
	}
	return coins
}

// A run has two slots for each one in which several send, and one more.
func TestPromise10LongSplits(t *testing.T) {
	sent, order, ok := impl.SplitRun(pairsTogether(38, 38, 38, 32))
	if len(sent) != 299 || !ok || !slices.Equal(order, counting(8)) {
		t.Errorf("149 splits: got %v %v %v", sent, order, ok)
	}
	for _, c := range []struct{ together, slots int }{{1, 237}, {31, 297}, {32, 299}, {33, 0}, {34, 0}, {38, 0}} {
		for shift := range 4 {
			together := []int{38, 38, 38, 38}
			together[shift] = c.together
			coins := pairsTogether(together...)
			if ok := checkSplit(t, coins); ok != (c.slots > 0) {
				t.Errorf("%q: got %v", coins, ok)
			}
			if sent, _, _ := impl.SplitRun(coins); len(sent) != c.slots {
				t.Errorf("%q: got %d slots, want %d", coins, len(sent), c.slots)
			}
		}
	}
	// 12 stations that need even more slots.
	checkSplit(t, append(pairsTogether(38, 38, 38, 38), pairsTogether(30, 30, 30, 30)[:4]...))
}

func TestPromise10SplitExamples(t *testing.T) {
	zeros, ones := strings.Repeat("0", 39), strings.Repeat("1", 39)
	together := append(slices.Repeat([]int64{2}, 40), 1, 1)
	expect(t, []row{
		{"the three of the example", show(impl.SplitRun([]string{"01", "1", "00"})), "[3 2 1 1 1] [2 0 1] true"},
		{"one station without coins", show(impl.SplitRun([]string{""})), "[1] [0] true"},
		{"one station with coins", show(impl.SplitRun([]string{"10"})), "[1] [0] true"},
		{"one station with 40 coins", show(impl.SplitRun([]string{ones + "0"})), "[1] [0] true"},
		{"two that are split at once", show(impl.SplitRun([]string{"1", "0"})), "[2 1 1] [1 0] true"},
		{"two that go on together by 0", show(impl.SplitRun([]string{"00", "01"})), "[2 2 1 1 0] [0 1] true"},
		{"two that go on together by 1", show(impl.SplitRun([]string{"11", "10"})), "[2 0 2 1 1] [1 0] true"},
		{"two that go on together by both", show(impl.SplitRun([]string{"010", "011"})), "[2 2 0 2 1 1 0] [0 1] true"},
		{"four that are split by two coins", show(impl.SplitRun([]string{"11", "01", "10", "00"})), "[4 2 1 1 2 1 1] [3 1 2 0] true"},
		{"three of which two go on", show(impl.SplitRun([]string{"0", "10", "11"})), "[3 1 2 1 1] [0 1 2] true"},
		{"no coins for two", show(impl.SplitRun([]string{"", ""})), noRun},
		{"no coins for one of two", show(impl.SplitRun([]string{"0", ""})), noRun},
		{"two that have run out", show(impl.SplitRun([]string{"0", "0"})), noRun},
		{"two that have run out by 1", show(impl.SplitRun([]string{"1", "1"})), noRun},
		{"one of two has run out", show(impl.SplitRun([]string{"1", "11"})), noRun},
		{"one succeeds, and two have run out", show(impl.SplitRun([]string{"0", "1", "1"})), noRun},
		{"two have run out before one succeeds", show(impl.SplitRun([]string{"0", "1", "0"})), noRun},
		{"40 coins that differ at last by 0", show(impl.SplitRun([]string{zeros + "0", zeros + "1"})), show(append(together, make([]int64, 39)...), []int64{0, 1}, true)},
		{"40 equal coins", show(impl.SplitRun([]string{zeros + "0", zeros + "0"})), noRun},
		{"40 coins that differ at last by 1", show(impl.SplitRun([]string{ones + "1", ones + "0"})), show(append(slices.Repeat([]int64{2, 0}, 39), 2, 1, 1), []int64{1, 0}, true)},
		{"no text", show(impl.SplitRun(nil)), noRun},
		{"an empty list", show(impl.SplitRun([]string{})), noRun},
		{"41 coins", show(impl.SplitRun([]string{zeros + "00"})), noRun},
		{"41 coins behind others", show(impl.SplitRun([]string{"0", zeros + "10", "1"})), noRun},
		{"a coin that is no bit", show(impl.SplitRun([]string{"2"})), noRun},
		{"a coin that is no bit behind those that are needed", show(impl.SplitRun([]string{"0", "1x"})), noRun},
		{"13 stations", show(impl.SplitRun(textsOf(4)[:13])), noRun},
		{"13 stations without coins", show(impl.SplitRun(make([]string, 13))), noRun},
		{"12 stations without coins", show(impl.SplitRun(make([]string, 12))), noRun},
	})
	if !checkSplit(t, textsOf(4)[:12]) || !checkSplit(t, textsOf(4)[4:]) {
		t.Errorf("12 stations with different coins fail")
	}
}

// A text that has no coins makes a run fail wherever it stands, also if they would never be taken.
func TestPromise10SplitsThatFail(t *testing.T) {
	invalid := []string{
		"2", "/", ":", "x", " ", "0 ", "-1", "0\x00", "\x00", "\xff", "1\xff", "\xb0", "\u0660", "\uff10", "01,", "0\n",
		strings.Repeat("0", 41), strings.Repeat("1", 41), strings.Repeat("01", 200), strings.Repeat("0", 39) + "2", strings.Repeat("1", 39) + "\xff",
	}
	for _, text := range invalid {
		for stations := 1; stations <= 12; stations++ {
			for at := range stations {
				coins := slices.Clone(textsOf(4)[:stations])
				coins[at] = text
				expect(t, []row{{fmt.Sprintf("SplitRun %q", coins), show(impl.SplitRun(coins)), noRun}})
				coins[at] = "1111" + text
				expect(t, []row{{fmt.Sprintf("SplitRun %q", coins), show(impl.SplitRun(coins)), noRun}})
			}
		}
	}
	for _, stations := range []int{13, 14, 24, 64, 1000} {
		expect(t, []row{{fmt.Sprint("SplitRun of ", stations), show(impl.SplitRun(textsOf(10)[:stations])), noRun}})
	}
}

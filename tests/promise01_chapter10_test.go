package tests

import (
	"fmt"
	"math"
	"reflect"
	"strings"
	"testing"

	"loop.example/g01142/impl"
)

var chapter10 = map[string]any{
	"LevelsOf":       impl.LevelsOf,
	"BitsOfLevels":   impl.BitsOfLevels,
	"ReadLevels":     impl.ReadLevels,
	"FirstWrong":     impl.FirstWrong,
	"SumsOf":         impl.SumsOf,
	"LongestFlat":    impl.LongestFlat,
	"ChangesOf":      impl.ChangesOf,
	"TurnLevels":     impl.TurnLevels,
	"WrongBehind":    impl.WrongBehind,
	"WorstFlat":      impl.WorstFlat,
	"LevelsText":     impl.LevelsText,
	"ReadLevelsText": impl.ReadLevelsText,
}

var chapter10Numbers = []int64{
	math.MinInt64, math.MinInt64 + 1, -2, -1, 0, 1, 2, 3, 4, 5, 6, 400, 401, 1 << 32, math.MaxInt64 - 1, math.MaxInt64,
}

var chapter10Texts = []string{
	"", "0", "1", "2", "01", "1101", "+", "-", "-0+", "++-+", "+1", "+\xff", "\uff0b", strings.Repeat("01", 200), strings.Repeat("1", 401),
	strings.Repeat("0", 800), strings.Repeat("+-", 400), strings.Repeat("-", 801),
}

// levelPool has levels of all sorts, and lists that are none.
func levelPool() [][]int64 {
	pool := [][]int64{nil, {}, {0}, {1}, {-1}, {1, -1}, {1, 1}, {-1, 1, 0}, {0, 0, 0, 0}, repeated[int64](0, 400), repeated[int64](1, 401), repeated[int64](-1, 800)}
	for _, kind := range lineKinds {
		pool = append(pool, levelsIn(textReference(kind, "1101")), levelsIn(textReference(kind, strings.Repeat("0110", 100))))
	}
	for _, levels := range notLevels {
		if len(levels) <= 1600 {
			pool = append(pool, levels)
		}
	}
	return pool
}

func TestPromise1Chapter10(t *testing.T) {
	checkChapter(t, chapter10, poolsOf(pooled(chapter10Numbers), pooled(chapter10Texts), pooled(levelPool())))
}

func TestPromise1NilAndEmptyLevelsAreTheSame(t *testing.T) {
	none := []int64{}
	for _, kind := range append([]int64{-1, 6}, lineKinds...) {
		expect(t, []row{
			{"BitsOfLevels", show(impl.BitsOfLevels(kind, nil)), show(impl.BitsOfLevels(kind, none))},
			{"ReadLevels", show(impl.ReadLevels(kind, nil)), show(impl.ReadLevels(kind, none))},
			{"FirstWrong", show(impl.FirstWrong(kind, nil)), show(impl.FirstWrong(kind, none))},
		})
	}
	expect(t, []row{
		{"SumsOf", show(impl.SumsOf(nil)), show(impl.SumsOf(none))},
		{"LongestFlat", show(impl.LongestFlat(nil)), show(impl.LongestFlat(none))},
		{"ChangesOf", show(impl.ChangesOf(nil)), show(impl.ChangesOf(none))},
		{"TurnLevels", show(impl.TurnLevels(nil)), show(impl.TurnLevels(none))},
		{"LevelsText", show(impl.LevelsText(nil)), show(impl.LevelsText(none))},
	})
}

// levelCalls calls all functions of chapter 10, and returns all that they return.
func levelCalls() string {
	var all []string
	levels := levelsIn("+0-0+--")
	for _, kind := range lineKinds {
		all = append(all, show(impl.LevelsOf(kind, "0110100")), show(impl.BitsOfLevels(kind, levelsIn(textReference(kind, "0110100")))),
			show(impl.ReadLevels(kind, levels[:6])), show(impl.FirstWrong(kind, levels)), show(impl.WrongBehind(kind, "0110100", 2, 0)), show(impl.WorstFlat(kind, 9)))
	}
	return strings.Join(append(all, show(impl.SumsOf(levels)), show(impl.LongestFlat(levels)), show(impl.ChangesOf(levels)), show(impl.TurnLevels(levels)),
		show(impl.LevelsText(levels)), show(impl.ReadLevelsText("+0-0+--"))), "; ")
}

// The levels and the longest flat parts of one call leave nothing to the next one, whatever has been called before it.
func TestPromise1LevelsAreNotKept(t *testing.T) {
	first := levelCalls()
	for _, kind := range chapter10Numbers {
		for _, levels := range levelPool() {
			impl.BitsOfLevels(kind, levels)
			impl.ReadLevels(kind, levels)
			impl.FirstWrong(kind, levels)
			impl.SumsOf(levels)
			impl.LongestFlat(levels)
			impl.ChangesOf(levels)
		}
		for _, text := range chapter10Texts {
			impl.LevelsOf(kind, text)
			impl.ReadLevelsText(text)
		}
		for _, n := range chapter10Numbers {
			impl.WorstFlat(kind, n)
			impl.WrongBehind(kind, "1101", n, 0)
		}
		if again := levelCalls(); again != first {
			t.Fatalf("behind %d: got %s, and first %s", kind, again, first)
		}
	}
}

// Levels that are found at the same time have nothing to do with each other.
func TestPromise1LevelsAtTheSameTime(t *testing.T) {
	first := levelCalls()
	for i := range 40 {
		t.Run(fmt.Sprint(i), func(t *testing.T) {
			t.Parallel()
			for n := range 50 {
				kind, count := lineKinds[i%6], int64(1+(7*i+n)%400)
				expect(t, []row{{fmt.Sprint("WorstFlat ", kind, count), show(impl.WorstFlat(kind, count)), show(worstReference(kind, count), true)}})
				checkSums(t, levelsIn(textReference(kind, strings.Repeat("0110100", n))))
				if again := levelCalls(); again != first {
					t.Errorf("got %s, and first %s", again, first)
				}
			}
		})
	}
}

// A list that is returned stays what it is when another one, or an argument, is overwritten.
func TestPromise1ResultsOfLevelsShareNoMemory(t *testing.T) {
	levels := []int64{0, 0, 0, 0}
	for name, get := range map[string]func() ([]int64, bool){
		"LevelsOf straight":  func() ([]int64, bool) { return impl.LevelsOf(impl.LineStraight, "0110") },
		"LevelsOf change":    func() ([]int64, bool) { return impl.LevelsOf(impl.LineChange, "0") },
		"LevelsOf halves":    func() ([]int64, bool) { return impl.LevelsOf(impl.LineHalves, "1") },
		"LevelsOf halfwise":  func() ([]int64, bool) { return impl.LevelsOf(impl.LineHalfwise, "10") },
		"LevelsOf alternate": func() ([]int64, bool) { return impl.LevelsOf(impl.LineAlternate, "0") },
		"LevelsOf three":     func() ([]int64, bool) { return impl.LevelsOf(impl.LineThree, "000") },
		"TurnLevels":         func() ([]int64, bool) { return impl.TurnLevels(levels) },
		"ReadLevelsText":     func() ([]int64, bool) { return impl.ReadLevelsText("+0-") },
	} {
		first, _ := get()
		second, _ := get()
		want := show(second)
		fill(reflect.ValueOf(first), 45)
		third, _ := get()
		if show(second) != want || show(third) != want {
			t.Errorf("%s: %s has become %v, and then %v, when another result was overwritten", name, want, second, third)
		}
		if show(levels) != "[0 0 0 0]" {
			t.Errorf("%s: the argument has become %v", name, levels)
		}
	}
	turned, _ := impl.TurnLevels(levels)
	fill(reflect.ValueOf(levels), 46)
	if show(turned) != "[0 0 0 0]" {
		t.Errorf("turned levels have become %v when the argument was overwritten", turned)
	}
}

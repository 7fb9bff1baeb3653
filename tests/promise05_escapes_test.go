package tests

import (
	"fmt"
	"math"
	"math/rand"
	"slices"
	"strings"
	"testing"

	"loop.example/g01142/impl"
)

// specialSets are sets of special bytes.
var specialSets = [][]int64{
	{125}, {125, 126}, {124, 125}, {0, 125}, {32, 125}, {125, 255}, {17, 19, 125, 126}, {13, 61, 125},
	{0, 1, 2, 3, 4, 5, 125}, {0, 10, 13, 17, 19, 125, 126, 255}, {125, 128, 129, 130, 131, 132, 133, 134},
	{32, 33, 34, 35, 36, 37, 38, 125},
}

// notSpecial are lists that are no sets of special bytes.
var notSpecial = [][]int64{
	nil, {}, {126}, {93}, {0, 126}, {124, 126, 127}, {93, 125}, {93, 125, 126}, {94, 125, 126}, {0, 32, 125}, {125, 223, 255}, {125, 159, 191},
	{13, 45, 125}, {126, 125}, {125, 0}, {125, 125}, {0, 0, 125}, {125, 126, 126}, {0, 2, 1, 125}, {-1, 125}, {125, 256}, {125, 381}, {-131, 125},
	{math.MinInt64, 125}, {125, math.MaxInt64}, {-131}, {381},
	{0, 1, 2, 3, 4, 5, 6, 7, 125}, {125, 128, 129, 130, 131, 132, 133, 134, 135}, repeated[int64](125, 9), repeated[int64](125, 5000),
}

// notBytes are numbers that no bytes are.
var notBytes = []int64{-1, -2, 256, 257, 381, -131, math.MinInt64, math.MinInt64 + 125, math.MaxInt64}

// escapeReference returns bytes with the special ones escaped.
func escapeReference(special, plain []int64) []int64 {
	pairs := []string{}
	for _, b := range special {
		pairs = append(pairs, string([]byte{byte(b)}), string([]byte{'}', byte(b) ^ ' '}))
	}
	return numbersOf(strings.NewReplacer(pairs...).Replace(textOf(plain)))
}

// textOf returns bytes as a text.
func textOf(list []int64) string {
	text := make([]byte, len(list))
	for i, b := range list {
		text[i] = byte(b)
	}
	return string(text)
}

// numbersOf returns the bytes of a text.
func numbersOf(text string) []int64 {
	list := make([]int64, len(text))
	for i := range len(text) {
		list[i] = int64(text[i])
	}
	return list
}

// listsUpTo returns all lists of some numbers with at most so many of them.
func listsUpTo(length int, numbers ...int64) [][]int64 {
	lists := [][]int64{{}}
	for i := 0; len(lists[i]) < length; i++ {
		for _, n := range numbers {
			lists = append(lists, append(slices.Clone(lists[i]), n))
		}
	}
	return lists
}

// drawnBytes returns so many bytes, half of them from a list.
func drawnBytes(source *rand.Rand, count int, often []int64) []int64 {
	list := make([]int64, count)
	for i := range list {
		list[i] = source.Int63n(256)
		if source.Intn(2) == 0 {
			list[i] = often[source.Intn(len(often))]
		}
	}
	return list
}

func checkEscaping(t *testing.T, special, plain []int64) {
	t.Helper()
	name := fmt.Sprint(special, plain)
	want := escapeReference(special, plain)
	expect(t, []row{
		{"EscapeBytes " + name, show(impl.EscapeBytes(special, plain)), show(want, true)},
		{"UnescapeBytes of what is escaped " + name, show(impl.UnescapeBytes(special, want)), show(plain, true)},
	})
	for _, b := range want {
		if b != 125 && slices.Contains(special, b) {
			t.Errorf("EscapeBytes %s: %d is among the long bytes", name, b)
		}
	}
}

func TestPromise5BytesComeBack(t *testing.T) {
	source := rand.New(rand.NewSource(8))
	for _, special := range specialSets {
		checkEscaping(t, special, nil)
		checkEscaping(t, special, []int64{})
		for b := range int64(256) {
			checkEscaping(t, special, []int64{b})
			checkEscaping(t, special, []int64{125, b, 93, b})
		}
		for _, count := range []int{2, 3, 10, 100, 299, 300} {
			checkEscaping(t, special, drawnBytes(source, count, special))
			checkEscaping(t, special, repeated[int64](125, count))
			checkEscaping(t, special, repeated(special[0], count))
			checkEscaping(t, special, repeated[int64](200, count))
		}
	}
}

// All long bytes of a few numbers are unescaped as far as bytes are escaped as them.
func TestPromise5OnlyEscapedBytesAreUnescaped(t *testing.T) {
	for _, special := range [][]int64{{125}, {125, 126}, {32, 125}, {0, 125}} {
		numbers := []int64{125, 93, 126, 94, 0, 32}
		lists := listsUpTo(4, numbers...)
		escaped := map[string][]int64{}
		for _, plain := range lists {
			escaped[textOf(escapeReference(special, plain))] = plain
		}
		for _, long := range lists {
			plain, ok := escaped[textOf(long)]
			expect(t, []row{{fmt.Sprint("UnescapeBytes ", special, long), show(impl.UnescapeBytes(special, long)), show(plain, ok)}})
		}
	}
}

func TestPromise5EscapedPairs(t *testing.T) {
	for _, special := range specialSets {
		for b := range int64(256) {
			pair, alone := noList, show([]int64{b}, true)
			if slices.Contains(special, b^32) {
				pair = show([]int64{201, b ^ 32, 202}, true)
			}
			if slices.Contains(special, b) {
				alone = noList
			}
			expect(t, []row{
				{fmt.Sprint("UnescapeBytes of a pair ", special, b), show(impl.UnescapeBytes(special, []int64{201, 125, b, 202})), pair},
				{fmt.Sprint("UnescapeBytes of a byte ", special, b), show(impl.UnescapeBytes(special, []int64{b})), alone},
				{fmt.Sprint("UnescapeBytes of 125 at the end ", special, b), show(impl.UnescapeBytes(special, []int64{201, b, 201, 125})), noList},
			})
		}
	}
}

func TestPromise5BytesHaveALimit(t *testing.T) {
	special := []int64{125, 126}
	pairs := func(count int) []int64 { return escapeReference(special, repeated[int64](126, count)) }
	plain := func(count int) []int64 { return repeated[int64](7, count) }
	expect(t, []row{
		{"300 bytes", show(impl.EscapeBytes(special, plain(300))), show(plain(300), true)},
		{"301 bytes", show(impl.EscapeBytes(special, plain(301))), noList},
		{"300 special bytes", show(impl.EscapeBytes(special, repeated[int64](126, 300))), show(pairs(300), true)},
		{"301 special bytes", show(impl.EscapeBytes(special, repeated[int64](126, 301))), noList},
		{"many bytes", show(impl.EscapeBytes(special, plain(100000))), noList},
		{"600 long bytes", show(impl.UnescapeBytes(special, pairs(300))), show(repeated[int64](126, 300), true)},
		{"601 long bytes", show(impl.UnescapeBytes(special, append(pairs(300), 7))), noList},
		{"602 long bytes", show(impl.UnescapeBytes(special, pairs(301))), noList},
		{"300 long bytes that are not escaped", show(impl.UnescapeBytes(special, plain(300))), show(plain(300), true)},
		{"301 long bytes that are not escaped", show(impl.UnescapeBytes(special, plain(301))), noList},
		{"long bytes of 300 bytes", show(impl.UnescapeBytes(special, append(pairs(299), 7))), show(append(repeated[int64](126, 299), 7), true)},
		{"long bytes of 301 bytes", show(impl.UnescapeBytes(special, append(pairs(299), 7, 7))), noList},
		{"many long bytes", show(impl.UnescapeBytes(special, plain(100000))), noList},
	})
}

func TestPromise5InvalidSpecialBytes(t *testing.T) {
	for _, special := range notSpecial {
		name := fmt.Sprintf("%.40v", fmt.Sprint(special))
		expect(t, []row{
			{"EscapeBytes " + name, show(impl.EscapeBytes(special, []int64{1, 125})), noList},
			{"EscapeBytes of nothing " + name, show(impl.EscapeBytes(special, nil)), noList},
			{"UnescapeBytes " + name, show(impl.UnescapeBytes(special, []int64{1, 125, 93})), noList},
			{"UnescapeBytes of a byte " + name, show(impl.UnescapeBytes(special, []int64{1})), noList},
			{"UnescapeBytes of nothing " + name, show(impl.UnescapeBytes(special, nil)), noList},
		})
	}
}

func TestPromise5NumbersThatAreNoBytes(t *testing.T) {
	for _, special := range specialSets {
		for _, n := range notBytes {
			for at := range 4 {
				list := []int64{7, 8, 9}
				list = slices.Insert(list, at, n)
				name := fmt.Sprint(special, list)
				expect(t, []row{
					{"EscapeBytes " + name, show(impl.EscapeBytes(special, list)), noList},
					{"UnescapeBytes " + name, show(impl.UnescapeBytes(special, list)), noList},
				})
			}
			expect(t, []row{{fmt.Sprint("UnescapeBytes of a pair ", special, n), show(impl.UnescapeBytes(special, []int64{125, n})), noList}})
		}
	}
}

func TestPromise5EscapesOfExamples(t *testing.T) {
	special := []int64{125, 126}
	expect(t, []row{
		{"both special bytes", show(impl.EscapeBytes(special, []int64{1, 126, 125})), "[1 125 94 125 93] true"},
		{"they come back", show(impl.UnescapeBytes(special, []int64{1, 125, 94, 125, 93})), "[1 126 125] true"},
		{"no bytes", show(impl.EscapeBytes(special, nil)), "[] true"},
		{"no long bytes", show(impl.UnescapeBytes(special, nil)), "[] true"},
		{"93 and 94 are not special", show(impl.EscapeBytes(special, []int64{93, 94, 0, 255})), "[93 94 0 255] true"},
		{"125 at the end", show(impl.UnescapeBytes(special, []int64{1, 125})), noList},
		{"125 at the end, 32 is special", show(impl.UnescapeBytes([]int64{32, 125}, []int64{1, 125})), noList},
		{"125 twice", show(impl.UnescapeBytes(special, []int64{125, 125})), noList},
		{"a pair of a byte that is not special", show(impl.UnescapeBytes(special, []int64{125, 92})), noList},
		{"126 itself", show(impl.UnescapeBytes(special, []int64{126})), noList},
		{"126 where it is not special", show(impl.UnescapeBytes([]int64{125}, []int64{126, 125, 93})), "[126 125] true"},
		{"0 is special", show(impl.EscapeBytes([]int64{0, 125}, []int64{0, 32, 125})), "[125 32 32 125 93] true"},
	})
}

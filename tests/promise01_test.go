package tests

import (
	"fmt"
	"math"
	"reflect"
	"strings"
	"testing"

	"loop.example/g01142/impl"
)

// spare is the unused capacity that each list has which is passed as an argument.
const spare = 3

var chapter1 = map[string]any{
	"IsName":           impl.IsName,
	"Decimal":          impl.Decimal,
	"ReadDecimal":      impl.ReadDecimal,
	"IsBits":           impl.IsBits,
	"OnesOf":           impl.OnesOf,
	"XorBits":          impl.XorBits,
	"ReverseBits":      impl.ReverseBits,
	"FindBits":         impl.FindBits,
	"CountBits":        impl.CountBits,
	"RunLengths":       impl.RunLengths,
	"BitsOf":           impl.BitsOf,
	"NumberOfBits":     impl.NumberOfBits,
	"ParityOf":         impl.ParityOf,
	"BitsOfBytes":      impl.BitsOfBytes,
	"BytesOfBits":      impl.BytesOfBits,
	"ValidFraction":    impl.ValidFraction,
	"MakeFraction":     impl.MakeFraction,
	"AddFractions":     impl.AddFractions,
	"SubFractions":     impl.SubFractions,
	"MulFractions":     impl.MulFractions,
	"DivFractions":     impl.DivFractions,
	"CompareFractions": impl.CompareFractions,
	"SumFractions":     impl.SumFractions,
	"FractionText":     impl.FractionText,
	"ReadFraction":     impl.ReadFraction,
	"BinomialOf":       impl.BinomialOf,
	"ListText":         impl.ListText,
	"ReadList":         impl.ReadList,
	"CheckOf":          impl.CheckOf,
}

var textPool = []string{
	"", "0", "1", "01", "11", "0101", "01000001", "012", "2", "-", "/", ",",
	"7", "007", "-7", "-0", "+7", " 7", "7 ", "1_000", "0x7", "1000000000000000",
	"1000000000000001", "-1000000000000001", "9223372036854775808", "none", "None",
	"1,2", "1,,2", "1,", "1/2", "2/4", "3/1", "1/0", "1/-2", "1/2/3", "wire",
	"abcdefghij", "abcdefghijk", "aB", "\x00", "\xff", "0\xff", "\u00e9", "\u0966", "\uff10",
	strings.Repeat("1", 60), strings.Repeat("0", 61), strings.Repeat("01", 200),
	strings.Repeat("1", 401), strings.Repeat("9", 5000), strings.Repeat("0,", 64) + "0",
}

var numberPool = []int64{
	math.MinInt64, math.MinInt64 + 1, -impl.MaxPart - 1, -impl.MaxPart, -impl.MaxValue, -2, -1,
	0, 1, 2, 3, 7, 8, 59, 60, 61, 62, 63, 64, 65, 400, 401, impl.CheckSize - 1, impl.CheckSize,
	impl.MaxValue, impl.MaxValue + 1, impl.MaxPart, impl.MaxPart + 1, math.MaxInt64 - 1, math.MaxInt64,
}

var listPool = [][]int64{
	nil, {}, {0}, {1}, {65, 255}, {1, -2}, {256}, {-1}, {5, 256}, {math.MinInt64, math.MaxInt64},
	{impl.MaxValue, -impl.MaxValue}, {impl.MaxValue + 1}, {-impl.MaxValue - 1},
	repeated[int64](255, 50), repeated[int64](0, 51), repeated[int64](-1, 64), repeated[int64](0, 65),
}

var fractionPool = []impl.Fraction{
	{}, {Num: 0, Den: 1}, {Num: 0, Den: 2}, {Num: 1, Den: 0}, {Num: 1, Den: 1}, {Num: 1, Den: 2},
	{Num: -1, Den: 3}, {Num: 2, Den: 4}, {Num: 1, Den: -2}, {Num: -1, Den: -2},
	{Num: impl.MaxPart, Den: 1}, {Num: -impl.MaxPart, Den: 1}, {Num: 1, Den: impl.MaxPart},
	{Num: impl.MaxPart - 1, Den: impl.MaxPart}, {Num: -impl.MaxPart, Den: impl.MaxPart - 1},
	{Num: impl.MaxPart + 1, Den: 1}, {Num: -impl.MaxPart - 1, Den: 1}, {Num: 1, Den: impl.MaxPart + 1},
	{Num: math.MinInt64, Den: 1}, {Num: 1, Den: math.MinInt64}, {Num: math.MinInt64, Den: math.MinInt64},
	{Num: math.MaxInt64, Den: math.MaxInt64}, {Num: math.MinInt64, Den: math.MaxInt64},
}

var fractionListPool = [][]impl.Fraction{
	nil, {}, {{Num: 1, Den: 2}}, {{}}, {{Num: 1, Den: 2}, {Num: 2, Den: 4}},
	{{Num: impl.MaxPart, Den: 1}, {Num: impl.MaxPart, Den: 1}, {Num: -impl.MaxPart, Den: 1}},
	repeated(impl.Fraction{Num: 1, Den: 3}, 64), repeated(impl.Fraction{Num: 1, Den: 3}, 65),
}

func pooled[T any](values []T) []reflect.Value {
	pool := make([]reflect.Value, len(values))
	for i, value := range values {
		pool[i] = reflect.ValueOf(value)
	}
	return pool
}

// argumentPools has the arguments of each type with which functions are called.
type argumentPools map[reflect.Type][]reflect.Value

func poolsOf(pools ...[]reflect.Value) argumentPools {
	byType := argumentPools{}
	for _, pool := range pools {
		byType[pool[0].Type()] = pool
	}
	return byType
}

// freshArgument returns a copy of a value; each list in it that is not nil has spare capacity that is not empty.
func freshArgument(value reflect.Value) reflect.Value {
	switch {
	case value.Kind() == reflect.Struct:
		fresh := reflect.New(value.Type()).Elem()
		for i := range value.NumField() {
			fresh.Field(i).Set(freshArgument(value.Field(i)))
		}
		return fresh
	case value.Kind() == reflect.Slice && !value.IsNil():
		length := value.Len()
		list := reflect.MakeSlice(value.Type(), length+spare, length+spare)
		for i := range length {
			list.Index(i).Set(freshArgument(value.Index(i)))
		}
		for i := length; i < length+spare; i++ {
			list.Index(i).Set(filler(value.Type().Elem(), 41))
		}
		return list.Slice(0, length)
	}
	return value
}

// filler returns a value of a type of which each number and each text is made from n.
func filler(kind reflect.Type, n int64) reflect.Value {
	value := reflect.New(kind).Elem()
	if kind.Kind() == reflect.Slice {
		value.Set(reflect.MakeSlice(kind, 2, 2))
	}
	fill(value, n)
	return value
}

// fill overwrites all numbers and texts of a value that can be, also those in the unused capacity of its lists.
func fill(value reflect.Value, n int64) {
	switch value.Kind() {
	case reflect.Int64:
		if value.CanSet() {
			value.SetInt(n)
		}
	case reflect.String:
		if value.CanSet() {
			value.SetString(fmt.Sprint("text ", n))
		}
	case reflect.Struct:
		for i := range value.NumField() {
			fill(value.Field(i), n)
		}
	case reflect.Slice:
		list := value.Slice(0, value.Cap())
		for i := range list.Len() {
			fill(list.Index(i), n)
		}
	}
}

// wholeText returns a value as a text, with the unused capacity of its lists.
func wholeText(value reflect.Value) string {
	words := []string{}
	switch value.Kind() {
	case reflect.Struct:
		for i := range value.NumField() {
			words = append(words, wholeText(value.Field(i)))
		}
	case reflect.Slice:
		list := value.Slice(0, value.Cap())
		for i := range list.Len() {
			words = append(words, wholeText(list.Index(i)))
		}
	default:
		return show(value.Interface())
	}
	return "[" + strings.Join(words, " ") + "]"
}

// plainLists returns the lists in a value that have no lists in them.
func plainLists(value reflect.Value) []reflect.Value {
	var lists []reflect.Value
	switch value.Kind() {
	case reflect.Struct:
		for i := range value.NumField() {
			lists = append(lists, plainLists(value.Field(i))...)
		}
	case reflect.Slice:
		if value.Type().Elem().Kind() != reflect.Slice {
			return []reflect.Value{value}
		}
		for i := range value.Len() {
			lists = append(lists, plainLists(value.Index(i))...)
		}
	}
	return lists
}

// canBeOverwritten overwrites each list in results with something of its own, and reports whether all keep it.
func canBeOverwritten(results []reflect.Value) bool {
	var lists []reflect.Value
	for _, result := range results {
		lists = append(lists, plainLists(result)...)
	}
	filled := make([]string, len(lists))
	for i, list := range lists {
		fill(list, 43+int64(i))
		filled[i] = wholeText(list)
	}
	for i, list := range lists {
		if wholeText(list) != filled[i] {
			return false
		}
	}
	return true
}

func wholeTexts(values []reflect.Value) string {
	texts := make([]string, len(values))
	for i, value := range values {
		texts[i] = wholeText(value)
	}
	return strings.Join(texts, " ")
}

func showResults(results []reflect.Value) string {
	all := make([]any, len(results))
	for i, result := range results {
		all[i] = result.Interface()
	}
	return show(all...)
}

// hasFailed reports whether results are those of a function that fails.
func hasFailed(results []reflect.Value) bool {
	last := results[len(results)-1]
	return len(results) > 1 && last.Kind() == reflect.Bool && !last.Bool()
}

// isZero reports whether a result is a zero value; an empty list is one.
func isZero(result reflect.Value) bool {
	switch result.Kind() {
	case reflect.Slice:
		return result.Len() == 0
	case reflect.Struct:
		for i := range result.NumField() {
			if !isZero(result.Field(i)) {
				return false
			}
		}
		return true
	}
	return result.IsZero()
}

// checkCall calls a function several times with equal arguments, and overwrites what it returns in between.
func checkCall(t *testing.T, name string, function reflect.Value, values []reflect.Value) {
	var first string
	for round := range 3 {
		arguments := make([]reflect.Value, len(values))
		for i, value := range values {
			arguments[i] = freshArgument(value)
		}
		before := wholeTexts(arguments)
		results := function.Call(arguments)
		shown := showResults(results)
		if round == 0 {
			first = shown
		}
		if shown != first {
			t.Errorf("%s(%s): returned %s, and then %s", name, before, first, shown)
		}
		for i, result := range results {
			if hasFailed(results) && !isZero(result) {
				t.Errorf("%s(%s): fails with %s: result %d is not zero", name, before, shown, i)
			}
		}
		if !canBeOverwritten(results) {
			t.Errorf("%s(%s): two lists of %s share memory", name, before, shown)
		}
		if after := wholeTexts(arguments); after != before {
			t.Errorf("%s(%s): the arguments have become %s", name, before, after)
		}
	}
}

// checkCalls calls a function with all arguments of the pools.
func checkCalls(t *testing.T, name string, function reflect.Value, pools argumentPools, values []reflect.Value) {
	if len(values) == function.Type().NumIn() {
		checkCall(t, name, function, values)
		return
	}
	kind := function.Type().In(len(values))
	if len(pools[kind]) == 0 {
		t.Fatalf("no arguments of the type %v", kind)
	}
	for _, value := range pools[kind] {
		checkCalls(t, name, function, pools, append(values[:len(values):len(values)], value))
	}
}

func checkChapter(t *testing.T, functions map[string]any, pools argumentPools) {
	for name, function := range functions {
		t.Run(name, func(t *testing.T) {
			t.Parallel()
			checkCalls(t, name, reflect.ValueOf(function), pools, nil)
		})
	}
}

func TestPromise1Chapter1(t *testing.T) {
	checkChapter(t, chapter1, poolsOf(pooled(textPool), pooled(numberPool), pooled(listPool),
		pooled(fractionPool), pooled(fractionListPool)))
}

func TestPromise1NilAndEmptyListsAreTheSame(t *testing.T) {
	expect(t, []row{
		{"BitsOfBytes", show(impl.BitsOfBytes(nil)), show(impl.BitsOfBytes([]int64{}))},
		{"ListText", show(impl.ListText(nil)), show(impl.ListText([]int64{}))},
		{"SumFractions", show(impl.SumFractions(nil)), show(impl.SumFractions([]impl.Fraction{}))},
	})
}

func TestPromise1ResultsShareNoMemory(t *testing.T) {
	for _, get := range []func() ([]int64, bool){
		func() ([]int64, bool) { return impl.RunLengths("0110") },
		func() ([]int64, bool) { return impl.BytesOfBits("0000000111111111") },
		func() ([]int64, bool) { return impl.ReadList("1,-2,3") },
	} {
		first, _ := get()
		second, _ := get()
		want := show(second)
		fill(reflect.ValueOf(first), 43)
		if got := show(second); got != want {
			t.Errorf("a list has become %s instead of %s when another one was overwritten", got, want)
		}
	}
}

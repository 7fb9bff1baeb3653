package tests

import (
	"math"
	"reflect"
	"strings"
	"testing"

	"loop.example/g01142/impl"
)

// spare is the unused capacity that each list has which is passed as an argument.
const spare = 3

var chapter1 = map[string]any{
	"IsName":           impl.IsName,
	"Decimal":          impl.Decimal,
	"ReadDecimal":      impl.ReadDecimal,
	"IsBits":           impl.IsBits,
	"OnesOf":           impl.OnesOf,
	"XorBits":          impl.XorBits,
	"ReverseBits":      impl.ReverseBits,
	"FindBits":         impl.FindBits,
	"CountBits":        impl.CountBits,
	"RunLengths":       impl.RunLengths,
	"BitsOf":           impl.BitsOf,
	"NumberOfBits":     impl.NumberOfBits,
	"ParityOf":         impl.ParityOf,
	"BitsOfBytes":      impl.BitsOfBytes,
	"BytesOfBits":      impl.BytesOfBits,
	"ValidFraction":    impl.ValidFraction,
	"MakeFraction":     impl.MakeFraction,
	"AddFractions":     impl.AddFractions,
	"SubFractions":     impl.SubFractions,
	"MulFractions":     impl.MulFractions,
	"DivFractions":     impl.DivFractions,
	"CompareFractions": impl.CompareFractions,
	"SumFractions":     impl.SumFractions,
	"FractionText":     impl.FractionText,
	"ReadFraction":     impl.ReadFraction,
	"BinomialOf":       impl.BinomialOf,
	"ListText":         impl.ListText,
	"ReadList":         impl.ReadList,
	"CheckOf":          impl.CheckOf,
}

var textPool = []string{
	"", "0", "1", "01", "11", "0101", "01000001", "012", "2", "-", "/", ",",
	"7", "007", "-7", "-0", "+7", " 7", "7 ", "1_000", "0x7", "1000000000000000",
	"1000000000000001", "-1000000000000001", "9223372036854775808", "none", "None",
	"1,2", "1,,2", "1,", "1/2", "2/4", "3/1", "1/0", "1/-2", "1/2/3", "wire",
	"abcdefghij", "abcdefghijk", "aB", "\x00", "\xff", "0\xff", "\u00e9", "\u0966", "\uff10",
	strings.Repeat("1", 60), strings.Repeat("0", 61), strings.Repeat("01", 200),
	strings.Repeat("1", 401), strings.Repeat("9", 5000), strings.Repeat("0,", 64) + "0",
}

var numberPool = []int64{
	math.MinInt64, math.MinInt64 + 1, -impl.MaxPart - 1, -impl.MaxPart, -impl.MaxValue, -2, -1,
	0, 1, 2, 3, 7, 8, 59, 60, 61, 62, 63, 64, 65, 400, 401, impl.CheckSize - 1, impl.CheckSize,
	impl.MaxValue, impl.MaxValue + 1, impl.MaxPart, impl.MaxPart + 1, math.MaxInt64 - 1, math.MaxInt64,
}

var listPool = [][]int64{
	nil, {}, {0}, {1}, {65, 255}, {1, -2}, {256}, {-1}, {5, 256}, {math.MinInt64, math.MaxInt64},
	{impl.MaxValue, -impl.MaxValue}, {impl.MaxValue + 1}, {-impl.MaxValue - 1},
	repeated[int64](255, 50), repeated[int64](0, 51), repeated[int64](-1, 64), repeated[int64](0, 65),
}

var fractionPool = []impl.Fraction{
	{}, {Num: 0, Den: 1}, {Num: 0, Den: 2}, {Num: 1, Den: 0}, {Num: 1, Den: 1}, {Num: 1, Den: 2},
	{Num: -1, Den: 3}, {Num: 2, Den: 4}, {Num: 1, Den: -2}, {Num: -1, Den: -2},
	{Num: impl.MaxPart, Den: 1}, {Num: -impl.MaxPart, Den: 1}, {Num: 1, Den: impl.MaxPart},
	{Num: impl.MaxPart - 1, Den: impl.MaxPart}, {Num: -impl.MaxPart, Den: impl.MaxPart - 1},
	{Num: impl.MaxPart + 1, Den: 1}, {Num: -impl.MaxPart - 1, Den: 1}, {Num: 1, Den: impl.MaxPart + 1},
	{Num: math.MinInt64, Den: 1}, {Num: 1, Den: math.MinInt64}, {Num: math.MinInt64, Den: math.MinInt64},
	{Num: math.MaxInt64, Den: math.MaxInt64}, {Num: math.MinInt64, Den: math.MaxInt64},
}

var fractionListPool = [][]impl.Fraction{
	nil, {}, {{Num: 1, Den: 2}}, {{}}, {{Num: 1, Den: 2}, {Num: 2, Den: 4}},
	{{Num: impl.MaxPart, Den: 1}, {Num: impl.MaxPart, Den: 1}, {Num: -impl.MaxPart, Den: 1}},
	repeated(impl.Fraction{Num: 1, Den: 3}, 64), repeated(impl.Fraction{Num: 1, Den: 3}, 65),
}

func pooled[T any](values []T) []reflect.Value {
	pool := make([]reflect.Value, len(values))
	for i, value := range values {
		pool[i] = reflect.ValueOf(value)
	}
	return pool
}

func poolOf(t *testing.T, kind reflect.Type) []reflect.Value {
	switch reflect.Zero(kind).Interface().(type) {
	case string:
		return pooled(textPool)
	case int64:
		return pooled(numberPool)
	case []int64:
		return pooled(listPool)
	case impl.Fraction:
		return pooled(fractionPool)
	case []impl.Fraction:
		return pooled(fractionListPool)
	}
	t.Fatalf("no arguments of the type %v", kind)
	return nil
}

// freshArgument returns a copy of a value; a list that is not nil has spare capacity that is not empty.
func freshArgument(value reflect.Value) reflect.Value {
	if value.Kind() != reflect.Slice || value.IsNil() {
		return value
	}
	length := value.Len()
	list := reflect.MakeSlice(value.Type(), length+spare, length+spare)
	reflect.Copy(list, value)
	fillList(list.Slice(length, length+spare), 41)
	return list.Slice(0, length)
}

// fillList overwrites all elements of a list of numbers or fractions.
func fillList(list reflect.Value, n int64) {
	for i := range list.Len() {
		switch item := list.Index(i); item.Kind() {
		case reflect.Int64:
			item.SetInt(n)
		case reflect.Struct:
			item.Set(reflect.ValueOf(impl.Fraction{Num: n, Den: n}))
		}
	}
}

// showWhole returns values as a text, with the unused capacity of lists.
func showWhole(values []reflect.Value) string {
	all := make([]any, len(values))
	for i, value := range values {
		if value.Kind() == reflect.Slice {
			value = value.Slice(0, value.Cap())
		}
		all[i] = value.Interface()
	}
	return show(all...)
}

func showResults(results []reflect.Value) string {
	all := make([]any, len(results))
	for i, result := range results {
		all[i] = result.Interface()
	}
	return show(all...)
}

// hasFailed reports whether results are those of a function that fails.
func hasFailed(results []reflect.Value) bool {
	last := results[len(results)-1]
	return len(results) > 1 && last.Kind() == reflect.Bool && !last.Bool()
}

func isZero(result reflect.Value) bool {
	if result.Kind() == reflect.Slice {
		return result.Len() == 0
	}
	return result.IsZero()
}

// checkCall calls a function several times with equal arguments, and overwrites what it returns in between.
func checkCall(t *testing.T, name string, function reflect.Value, values []reflect.Value) {
	var first string
	for round := range 3 {
		arguments := make([]reflect.Value, len(values))
		for i, value := range values {
			arguments[i] = freshArgument(value)
		}
		before := showWhole(arguments)
		results := function.Call(arguments)
		shown := showResults(results)
		if round == 0 {
			first = shown
		}
		if shown != first {
			t.Errorf("%s(%s): returned %s, and then %s", name, before, first, shown)
		}
		for i, result := range results {
			if hasFailed(results) && !isZero(result) {
				t.Errorf("%s(%s): fails with %s: result %d is not zero", name, before, shown, i)
			}
			if result.Kind() == reflect.Slice {
				fillList(result.Slice(0, result.Cap()), 43)
			}
		}
		if after := showWhole(arguments); after != before {
			t.Errorf("%s(%s): the arguments have become %s", name, before, after)
		}
	}
}

func checkCalls(t *testing.T, name string, function reflect.Value, values []reflect.Value) {
	if len(values) == function.Type().NumIn() {
		checkCall(t, name, function, values)
		return
	}
	for _, value := range poolOf(t, function.Type().In(len(values))) {
		checkCalls(t, name, function, append(values[:len(values):len(values)], value))
	}
}

func TestPromise1Chapter1(t *testing.T) {
	for name, function := range chapter1 {
		t.Run(name, func(t *testing.T) {
			checkCalls(t, name, reflect.ValueOf(function), nil)
		})
	}
}

func TestPromise1NilAndEmptyListsAreTheSame(t *testing.T) {
	expect(t, []row{
		{"BitsOfBytes", show(impl.BitsOfBytes(nil)), show(impl.BitsOfBytes([]int64{}))},
		{"ListText", show(impl.ListText(nil)), show(impl.ListText([]int64{}))},
		{"SumFractions", show(impl.SumFractions(nil)), show(impl.SumFractions([]impl.Fraction{}))},
	})
}

func TestPromise1ResultsShareNoMemory(t *testing.T) {
	for _, get := range []func() ([]int64, bool){
		func() ([]int64, bool) { return impl.RunLengths("0110") },
		func() ([]int64, bool) { return impl.BytesOfBits("0000000111111111") },
		func() ([]int64, bool) { return impl.ReadList("1,-2,3") },
	} {
		first, _ := get()
		second, _ := get()
		want := show(second)
		fillList(reflect.ValueOf(first[:cap(first)]), 43)
		if got := show(second); got != want {
			t.Errorf("a list has become %s instead of %s when another one was overwritten", got, want)
		}
	}
}

package tests

import (
	"math"
	"math/big"
	"strconv"
	"strings"
	"testing"

	"loop.example/g01142/impl"
)

func TestPromise2Names(t *testing.T) {
	for _, s := range []string{"a", "z", "m", "az", "wire", "abcdefghij", "zzzzzzzzzz"} {
		if !impl.IsName(s) {
			t.Errorf("%q is a name", s)
		}
	}
	for _, s := range []string{"", "abcdefghijk", "A", "Z", "aB", "a1", "0", "a b", " a", "a ", "a-b", "a\n", "`", "{", "\x00", "\xff", "\u00e9", "a\u00e9"} {
		if impl.IsName(s) {
			t.Errorf("%q is no name", s)
		}
	}
}

func TestPromise2NamesOfOneByte(t *testing.T) {
	for b := range 256 {
		s := string([]byte{byte(b)})
		if got, want := impl.IsName(s), strings.Contains("abcdefghijklmnopqrstuvwxyz", s); got != want {
			t.Errorf("IsName(%q): got %v", s, got)
		}
	}
}

func TestPromise2Decimal(t *testing.T) {
	for _, n := range []int64{0, 1, -1, 7, -7, 10, 100, -100, 1234567890, math.MaxInt64, math.MinInt64, math.MinInt64 + 1} {
		if got, want := impl.Decimal(n), big.NewInt(n).String(); got != want {
			t.Errorf("Decimal(%d): got %s", n, got)
		}
	}
}

func TestPromise2DecimalsComeBack(t *testing.T) {
	numbers := []int64{impl.MaxValue, impl.MaxValue - 1, -impl.MaxValue, 1 - impl.MaxValue}
	for n := int64(-1200); n <= 1200; n++ {
		numbers = append(numbers, n)
	}
	for _, n := range numbers {
		if got, ok := impl.ReadDecimal(impl.Decimal(n)); got != n || !ok {
			t.Errorf("ReadDecimal of %d: got %d %v", n, got, ok)
		}
	}
}

func TestPromise2NoDecimals(t *testing.T) {
	for _, s := range []string{
		"", "-", "+", "--1", "-0", "00", "-00", "01", "007", "-07", "0000000000000000000001", "+0", "+7",
		" 7", "7 ", "7\n", "7.0", "1e3", "0x1", "0b1", "1_000", "1,000", "a", "\x00", "7\x00", "\xff", "\u0967", "\uff11",
		"1000000000000001", "-1000000000000001", "9999999999999999", "9223372036854775807", "9223372036854775808",
		"-9223372036854775808", "18446744073709551617", strings.Repeat("9", 100000),
	} {
		expect(t, []row{{"ReadDecimal " + strconv.Quote(s), show(impl.ReadDecimal(s)), noNumber}})
	}
}

func TestPromise2Lists(t *testing.T) {
	most := strings.Repeat("-3,", 63) + "-3"
	zeros := strings.TrimSuffix(strings.Repeat("0,", 64), ",")
	for _, c := range []struct {
		list []int64
		text string
	}{
		{nil, "none"}, {[]int64{}, "none"}, {[]int64{0}, "0"}, {[]int64{1, -2}, "1,-2"}, {[]int64{10, 0, 10}, "10,0,10"},
		{[]int64{impl.MaxValue, -impl.MaxValue}, "1000000000000000,-1000000000000000"},
		{repeated[int64](-3, 64), most}, {repeated[int64](0, 64), zeros},
	} {
		expect(t, []row{
			{"ListText", show(impl.ListText(c.list)), show(c.text, true)},
			{"ReadList " + c.text, show(impl.ReadList(c.text)), show(c.list, true)},
		})
	}
}

func TestPromise2NoLists(t *testing.T) {
	for _, s := range []string{
		"", ",", "1,", ",1", "1,,2", "1, 2", " 1", "1 ", "01,2", "1,02", "-0", "1,-0", "+1", "1,+2", "none,1", "1,none",
		"none,none", "none ", " none", "None", "NONE", "non", "nonee", "1;2", "1\n", "1000000000000001", "0,-1000000000000001",
		strings.Repeat("0,", 64) + "0", strings.Repeat("1,", 100000),
	} {
		expect(t, []row{{"ReadList", show(impl.ReadList(s)), noList}})
	}
	for _, list := range [][]int64{
		{impl.MaxValue + 1}, {-impl.MaxValue - 1}, {0, impl.MaxValue + 1}, {math.MaxInt64}, {math.MinInt64}, repeated[int64](0, 65),
	} {
		expect(t, []row{{"ListText", show(impl.ListText(list)), noText}})
	}
}

func checkReference(start int64, s string) int64 {
	check := big.NewInt(start)
	for _, b := range []byte(s) {
		check.Mul(check, big.NewInt(3001))
		check.Add(check, big.NewInt(int64(b)+5))
		check.Mod(check, big.NewInt(impl.CheckSize))
	}
	return check.Int64()
}

func TestPromise2CheckNumbers(t *testing.T) {
	var bytes []byte
	for b := range 256 {
		bytes = append(bytes, byte(b))
	}
	texts := []string{"", "a", "ab", "ba", "\x00", "\n", "\xff", "\u00e9", "\u20ac", "set x 01", string(bytes), strings.Repeat("z", 5000)}
	for _, s := range texts {
		for _, start := range []int64{0, 1, 102, 65001, 65002} {
			expect(t, []row{{"CheckOf " + strconv.Quote(s), show(impl.CheckOf(start, s)), show(checkReference(start, s), true)}})
		}
		for _, start := range []int64{-1, 65003, 65004, math.MinInt64, math.MaxInt64} {
			expect(t, []row{{"CheckOf " + strconv.Quote(s), show(impl.CheckOf(start, s)), noNumber}})
		}
	}
	expect(t, []row{
		{"CheckOf a", show(impl.CheckOf(0, "a")), "102 true"},
		{"CheckOf of no text", show(impl.CheckOf(65002, "")), "65002 true"},
	})
}

func TestPromise2CheckNumbersGoOn(t *testing.T) {
	left, _ := impl.CheckOf(0, "frames on")
	right, _ := impl.CheckOf(left, " a wire")
	whole, _ := impl.CheckOf(0, "frames on a wire")
	if right != whole {
		t.Errorf("the check number goes on to %d instead of %d", right, whole)
	}
}

package tests

import (
	"fmt"
	"math"
	"strings"
	"testing"

	"loop.example/g01142/impl"
)

// notBits are texts which every function with bits refuses.
var notBits = []string{
	"2", "012", "a", "-1", "+1", " ", "0 1", "01\n", "/", ":", "\x00", "0\x001", "\x01", "\xff", "\u00e9", "\u0966", "\uff11",
	strings.Repeat("0", 401), strings.Repeat("1", 401), strings.Repeat("2", 400), strings.Repeat("0", 399) + "2", strings.Repeat("1", 100000),
}

func TestPromise2IsBits(t *testing.T) {
	for _, s := range append(textsUpTo(6), strings.Repeat("0", 400), strings.Repeat("1", 400), strings.Repeat("01", 200)) {
		if !impl.IsBits(s) {
			t.Errorf("%q are bits", s)
		}
	}
	for _, s := range notBits {
		if impl.IsBits(s) {
			t.Errorf("%.20q are no bits", s)
		}
	}
}

func TestPromise2NoBitsFail(t *testing.T) {
	for _, s := range notBits {
		expect(t, []row{
			{"OnesOf " + s, show(impl.OnesOf(s)), noNumber},
			{"XorBits " + s, show(impl.XorBits(s, s)), noText},
			{"XorBits, left " + s, show(impl.XorBits(s, strings.Repeat("1", len(s)))), noText},
			{"XorBits, right " + s, show(impl.XorBits(strings.Repeat("1", len(s)), s)), noText},
			{"ReverseBits " + s, show(impl.ReverseBits(s)), noText},
			{"FindBits in " + s, show(impl.FindBits(s, s[:1], 0)), noNumber},
			{"FindBits 1 in " + s, show(impl.FindBits(s, "1", 0)), noNumber},
			{"FindBits of " + s, show(impl.FindBits("01", s, 0)), noNumber},
			{"CountBits in " + s, show(impl.CountBits(s, "1")), noNumber},
			{"CountBits of " + s, show(impl.CountBits("01", s)), noNumber},
			{"RunLengths " + s, show(impl.RunLengths(s)), noList},
			{"NumberOfBits " + s, show(impl.NumberOfBits(s)), noNumber},
			{"BytesOfBits " + s, show(impl.BytesOfBits(s)), noList},
		})
	}
}

func TestPromise2OnesAndReverse(t *testing.T) {
	texts := append(textsUpTo(8), strings.Repeat("1", 400), strings.Repeat("001", 133))
	for _, s := range texts {
		var ones int64
		reversed := ""
		for _, digit := range s {
			ones += int64(digit - '0')
			reversed = string(digit) + reversed
		}
		expect(t, []row{
			{"OnesOf " + s, show(impl.OnesOf(s)), show(ones, true)},
			{"ReverseBits " + s, show(impl.ReverseBits(s)), show(reversed, true)},
		})
	}
}

func TestPromise2Xor(t *testing.T) {
	texts := textsUpTo(5)
	for _, a := range texts {
		for _, b := range texts {
			want := noText
			if len(a) == len(b) {
				differ := ""
				for i := range a {
					differ += map[bool]string{true: "1", false: "0"}[a[i] != b[i]]
				}
				want = show(differ, true)
			}
			expect(t, []row{{"XorBits " + a + " " + b, show(impl.XorBits(a, b)), want}})
		}
	}
	longest := strings.Repeat("01", 200)
	expect(t, []row{
		{"XorBits of 400", show(impl.XorBits(longest, strings.Repeat("1", 400))), show(strings.Repeat("10", 200), true)},
		{"XorBits of 400 and 399", show(impl.XorBits(longest, longest[1:])), noText},
	})
}

// indicesOf returns all indices at which part begins in s.
func indicesOf(s, part string) []int64 {
	var indices []int64
	for i := range s {
		if strings.HasPrefix(s[i:], part) {
			indices = append(indices, int64(i))
		}
	}
	return indices
}

func TestPromise2FindAndCount(t *testing.T) {
	parts := textsUpTo(4)[1:]
	for _, s := range textsUpTo(7) {
		for _, part := range parts {
			indices := indicesOf(s, part)
			expect(t, []row{{"CountBits " + s + " " + part, show(impl.CountBits(s, part)), show(len(indices), true)}})
			for from := range int64(len(s)) + 1 {
				for len(indices) > 0 && indices[0] < from {
					indices = indices[1:]
				}
				want := noNumber
				if len(indices) > 0 {
					want = show(indices[0], true)
				}
				expect(t, []row{{fmt.Sprint("FindBits ", s, part, from), show(impl.FindBits(s, part, from)), want}})
			}
		}
	}
}

func TestPromise2FindAndCountAtTheLimits(t *testing.T) {
	zeros, ones := strings.Repeat("0", 400), strings.Repeat("1", 400)
	last := zeros[:399] + "1"
	expect(t, []row{
		{"1 from 0", show(impl.FindBits("0101", "1", 0)), "1 true"},
		{"1 from 1", show(impl.FindBits("0101", "1", 1)), "1 true"},
		{"1 from 2", show(impl.FindBits("0101", "1", 2)), "3 true"},
		{"from the end", show(impl.FindBits("0101", "1", 4)), noNumber},
		{"from behind the end", show(impl.FindBits("0101", "1", 5)), noNumber},
		{"from before the beginning", show(impl.FindBits("0101", "1", -1)), noNumber},
		{"from the least number", show(impl.FindBits("0101", "1", math.MinInt64)), noNumber},
		{"from the greatest number", show(impl.FindBits("0101", "1", math.MaxInt64)), noNumber},
		{"no bits", show(impl.FindBits("0101", "", 0)), noNumber},
		{"no bits in none", show(impl.FindBits("", "", 0)), noNumber},
		{"in no bits", show(impl.FindBits("", "1", 0)), noNumber},
		{"the whole", show(impl.FindBits(ones, ones, 0)), "0 true"},
		{"the whole from 1", show(impl.FindBits(ones, ones, 1)), noNumber},
		{"the last bit", show(impl.FindBits(last, "1", 0)), "399 true"},
		{"the last bit from itself", show(impl.FindBits(last, "1", 399)), "399 true"},
		{"from 400", show(impl.FindBits(last, "1", 400)), noNumber},
		{"part is longer", show(impl.FindBits("01", "010", 0)), noNumber},
		{"count with overlaps", show(impl.CountBits("111", "11")), "2 true"},
		{"count in 400", show(impl.CountBits(ones, "11")), "399 true"},
		{"count the whole", show(impl.CountBits(ones, ones)), "1 true"},
		{"count none", show(impl.CountBits(ones, "0")), "0 true"},
		{"count in no bits", show(impl.CountBits("", "0")), "0 true"},
		{"count a longer part", show(impl.CountBits("01", "010")), "0 true"},
		{"count no bits", show(impl.CountBits("01", "")), noNumber},
		{"count no bits in none", show(impl.CountBits("", "")), noNumber},
	})
}

func TestPromise2Runs(t *testing.T) {
	for _, s := range append(textsUpTo(8), strings.Repeat("01", 200), strings.Repeat("0", 400)) {
		lengths, ok := impl.RunLengths(s)
		rebuilt, digit := "", "0"
		if strings.HasPrefix(s, "1") {
			digit = "1"
		}
		for _, length := range lengths {
			if length < 1 {
				t.Fatalf("RunLengths %s: got %v", s, lengths)
			}
			rebuilt += strings.Repeat(digit, int(length))
			digit = map[string]string{"0": "1", "1": "0"}[digit]
		}
		if rebuilt != s || !ok {
			t.Errorf("RunLengths %s: got %v %v", s, lengths, ok)
		}
	}
	expect(t, []row{
		{"no bits", show(impl.RunLengths("")), "[] true"},
		{"one bit", show(impl.RunLengths("0")), "[1] true"},
		{"several", show(impl.RunLengths("0011101")), "[2 3 1 1] true"},
	})
}

func TestPromise2BitsOfNumbersComeBack(t *testing.T) {
	for width := range int64(11) {
		for n := range int64(1) << width {
			want := ""
			if width > 0 {
				want = fmt.Sprintf("%0*b", width, n)
			}
			expect(t, []row{
				{fmt.Sprint("BitsOf ", n, width), show(impl.BitsOf(n, width)), show(want, true)},
				{"NumberOfBits " + want, show(impl.NumberOfBits(want)), show(n, true)},
			})
		}
		expect(t, []row{
			{fmt.Sprint("BitsOf too great with ", width), show(impl.BitsOf(1<<width, width)), noText},
			{fmt.Sprint("BitsOf -1 with ", width), show(impl.BitsOf(-1, width)), noText},
		})
	}
}

func TestPromise2BitsOfNumbersAtTheLimits(t *testing.T) {
	ones := strings.Repeat("1", 60)
	for width := range int64(61) {
		expect(t, []row{
			{fmt.Sprint("greatest of ", width), show(impl.BitsOf(1<<width-1, width)), show(ones[:width], true)},
			{fmt.Sprint("too great for ", width), show(impl.BitsOf(1<<width, width)), noText},
		})
	}
	expect(t, []row{
		{"width 0", show(impl.BitsOf(0, 0)), `"" true`},
		{"1 with width 0", show(impl.BitsOf(1, 0)), noText},
		{"0 with width 60", show(impl.BitsOf(0, 60)), show(strings.Repeat("0", 60), true)},
		{"width 61", show(impl.BitsOf(0, 61)), noText},
		{"width -1", show(impl.BitsOf(0, -1)), noText},
		{"width 64", show(impl.BitsOf(0, 64)), noText},
		{"least width", show(impl.BitsOf(0, math.MinInt64)), noText},
		{"greatest width", show(impl.BitsOf(0, math.MaxInt64)), noText},
		{"greatest number", show(impl.BitsOf(math.MaxInt64, 60)), noText},
		{"least number", show(impl.BitsOf(math.MinInt64, 60)), noText},
		{"no bits", show(impl.NumberOfBits("")), "0 true"},
		{"zeros before", show(impl.NumberOfBits("000101")), "5 true"},
		{"60 bits 1", show(impl.NumberOfBits(ones)), show(int64(1)<<60-1, true)},
		{"60 bits 0", show(impl.NumberOfBits(strings.Repeat("0", 60))), "0 true"},
		{"59 zeros before", show(impl.NumberOfBits(strings.Repeat("0", 59) + "1")), "1 true"},
		{"61 bits 0", show(impl.NumberOfBits(strings.Repeat("0", 61))), noNumber},
		{"61 bits 1", show(impl.NumberOfBits(ones + "1")), noNumber},
	})
}

func TestPromise2Parity(t *testing.T) {
	for n := range int64(64) {
		for mask := range int64(64) {
			want := strings.Count(fmt.Sprintf("%b", n&mask), "1") % 2
			expect(t, []row{{fmt.Sprint("ParityOf ", n, mask), show(impl.ParityOf(n, mask)), show(want, true)}})
		}
	}
	expect(t, []row{
		{"63 bits", show(impl.ParityOf(math.MaxInt64, math.MaxInt64)), "1 true"},
		{"62 bits", show(impl.ParityOf(math.MaxInt64, math.MaxInt64-1)), "0 true"},
		{"the greatest bit", show(impl.ParityOf(1<<62, math.MaxInt64)), "1 true"},
		{"no mask", show(impl.ParityOf(math.MaxInt64, 0)), "0 true"},
		{"number below 0", show(impl.ParityOf(-1, 1)), noNumber},
		{"mask below 0", show(impl.ParityOf(1, -1)), noNumber},
		{"both below 0", show(impl.ParityOf(-1, -1)), noNumber},
		{"the least number", show(impl.ParityOf(math.MinInt64, 1)), noNumber},
		{"the least mask", show(impl.ParityOf(1, math.MinInt64)), noNumber},
	})
}

func TestPromise2BytesComeBack(t *testing.T) {
	var all []int64
	for n := range int64(256) {
		all = append(all, n)
		expect(t, []row{{"BitsOfBytes", show(impl.BitsOfBytes([]int64{n})), show(fmt.Sprintf("%08b", n), true)}})
	}
	for from := 0; from+50 <= 256; from++ {
		for _, count := range []int{0, 1, 2, 50} {
			list := all[from : from+count]
			s, ok := impl.BitsOfBytes(list)
			if len(s) != 8*count || !ok {
				t.Fatalf("BitsOfBytes %v: got %s %v", list, s, ok)
			}
			expect(t, []row{{"BytesOfBits " + s, show(impl.BytesOfBits(s)), show(list, true)}})
		}
	}
}

func TestPromise2BytesAtTheLimits(t *testing.T) {
	expect(t, []row{
		{"byte 65", show(impl.BitsOfBytes([]int64{65})), `"01000001" true`},
		{"two bytes", show(impl.BitsOfBytes([]int64{65, 1})), `"0100000100000001" true`},
		{"no bytes", show(impl.BitsOfBytes(nil)), `"" true`},
		{"an empty list", show(impl.BitsOfBytes([]int64{})), `"" true`},
		{"50 bytes", show(impl.BitsOfBytes(repeated[int64](255, 50))), show(strings.Repeat("1", 400), true)},
		{"51 bytes", show(impl.BitsOfBytes(repeated[int64](0, 51))), noText},
		{"256", show(impl.BitsOfBytes([]int64{256})), noText},
		{"-1", show(impl.BitsOfBytes([]int64{-1})), noText},
		{"256 behind a byte", show(impl.BitsOfBytes([]int64{65, 256})), noText},
		{"-1 before a byte", show(impl.BitsOfBytes([]int64{-1, 65})), noText},
		{"the least number", show(impl.BitsOfBytes([]int64{math.MinInt64})), noText},
		{"the greatest number", show(impl.BitsOfBytes([]int64{math.MaxInt64})), noText},
		{"no bits", show(impl.BytesOfBits("")), "[] true"},
		{"7 bits", show(impl.BytesOfBits("0100000")), noList},
		{"9 bits", show(impl.BytesOfBits("010000010")), noList},
		{"12 bits", show(impl.BytesOfBits("010000010100")), noList},
		{"400 bits", show(impl.BytesOfBits(strings.Repeat("00000010", 50))), show(repeated[int64](2, 50), true)},
		{"408 bits", show(impl.BytesOfBits(strings.Repeat("0", 408))), noList},
	})
}

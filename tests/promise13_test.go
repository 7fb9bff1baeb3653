package tests

import (
	"fmt"
	"math/rand"
	"strings"
	"testing"

	"loop.example/g01142/impl"
)

// said carries out lines at a console, and returns their outputs with a blank between two of them.
func said(t *testing.T, c impl.Console, lines ...string) string {
	t.Helper()
	outputs := make([]string, len(lines))
	for i, line := range lines {
		var ok bool
		if c, outputs[i], ok = impl.ConsoleCommand(c, line); !ok {
			t.Fatalf("%q fails at %q", line, c)
		}
	}
	return strings.Join(outputs, " ")
}

// bitsText returns bits as they are set and shown.
func bitsText(bits string, ok bool) string {
	switch {
	case !ok || len(bits) > 400:
		return "no"
	case bits == "":
		return "none"
	}
	return bits
}

// dataText returns what the functions tell of bits by a code.
func dataText(code impl.BlockCode, start int64, bits string) string {
	data, wrong, _, ok := impl.DecodeBlocks(code, start, bits)
	first, isFirst := impl.ListText(data)
	second, isSecond := impl.ListText(wrong)
	if !ok || !isFirst || !isSecond {
		return "no"
	}
	return first + " " + second
}

// checkData compares what a console outputs for data with what the functions tell, also behind one error.
func checkData(t *testing.T, data, width, start int64, list []int64) {
	t.Helper()
	code, _ := impl.MakeBlockCode(data, width)
	sent, state, ok := impl.EncodeBlocks(code, start, list)
	text := modelListText(list)
	sizes := fmt.Sprint(data, width, start)
	name := fmt.Sprint(sizes, " ", list)
	if !ok || len(list) > 64 {
		expect(t, []row{{"blocks " + name, said(t, impl.Console{}, "blocks x "+sizes+" "+text, "show x"), "no no"}})
		return
	}
	c, output, _ := impl.ConsoleCommand(impl.Console{}, "blocks x "+sizes+" "+text)
	expect(t, []row{
		{"blocks " + name, output, show(state)},
		{"the bits of " + name, said(t, c, "show x"), bitsText(sent, true)},
		{"the data of " + name, said(t, c, "data x "+sizes), text + " none"},
		{"the data from the other state " + name, said(t, c, fmt.Sprint("data x ", data, width, -start)), dataText(code, -start, sent)},
	})
	for at := range sent {
		changed := withChange(sent, at)
		flip := fmt.Sprint("flip x ", at)
		got := said(t, c, flip, "data x "+sizes, "show x")
		expect(t, []row{{flip + " " + name, got, "ok " + dataText(code, start, changed) + " " + changed}})
		count, least, _ := impl.FlipEffect(code, start, list, int64(at))
		expect(t, []row{{"the effect of " + flip + " " + name, effectOf(list, got), show(count, least)}})
	}
}

// effectOf returns how many data differ from a list in what is output behind a flip, and the first word with an error, or -1.
func effectOf(list []int64, output string) string {
	words := strings.Split(output, " ")
	got, _ := impl.ReadList(words[1])
	wrong, _ := impl.ReadList(words[2])
	count, least := 0, int64(-1)
	for i := range list {
		if got[i] != list[i] {
			count++
		}
	}
	if len(wrong) > 0 {
		least = wrong[0]
	}
	return show(count, least)
}

func TestPromise13Data(t *testing.T) {
	source := rand.New(rand.NewSource(200))
	for data := int64(1); data <= 6; data++ {
		for width := int64(2); width <= 12; width += 2 {
			code, ok := impl.MakeBlockCode(data, width)
			if !ok {
				for _, line := range []string{"blocks x %d %d -1 0", "data a %d %d -1", "data e %d %d 1"} {
					c := consoleOf("a", strings.Repeat("01", int(width)/2), "e", "")
					expect(t, []row{{line, said(t, c, fmt.Sprintf(line, data, width)), "no"}})
				}
				continue
			}
			for _, start := range []int64{-1, 1} {
				for _, count := range []int64{0, 1, 2, 3, 9, 400 / width, 400/width + 1, 64, 65} {
					checkData(t, data, width, start, drawnData(source, code, count))
				}
				checkData(t, data, width, start, repeated(int64(1)<<data-1, 5))
				checkData(t, data, width, start, []int64{0, 1 << data})
				checkData(t, data, width, start, []int64{-1})
			}
		}
	}
}

// Bits that no data made are read as the functions tell, too.
func TestPromise13DataOfAnyBits(t *testing.T) {
	source := rand.New(rand.NewSource(201))
	for range 3000 {
		data, width, start := 1+source.Int63n(6), 2+2*source.Int63n(6), source.Int63n(2)*2-1
		code, ok := impl.MakeBlockCode(data, width)
		bits := drawnBits(source, source.Int63n(20)*width+source.Int63n(2)*source.Int63n(2))
		want := dataText(code, start, bits)
		if !ok {
			want = "no"
		}
		expect(t, []row{{fmt.Sprint("data ", data, width, start, " of ", bits), said(t, consoleOf("x", bits), fmt.Sprint("data x ", data, width, start)), want}})
	}
}

func TestPromise13Checks(t *testing.T) {
	source := rand.New(rand.NewSource(202))
	for _, p := range append(sampleChecks(source), 1, 0, -3, 1<<17, 1<<17+1) {
		for _, length := range []int64{0, 1, 2, 7, 40, 383, 384, 385, 397, 398, 399, 400} {
			bits := drawnBits(source, length)
			sent, ok := impl.AddCheck(p, bits)
			set, check, verify := "set x "+bitsText(bits, true), fmt.Sprint("check y x ", p), fmt.Sprint("verify y ", p)
			name := fmt.Sprint(p, " of ", bits)
			if !ok {
				expect(t, []row{{"check " + name, said(t, impl.Console{}, set, check, "show y"), "ok no no"}})
				continue
			}
			expect(t, []row{{"check " + name, said(t, impl.Console{}, set, check, "show y", verify, "show x"), "ok ok " + bitsText(sent, true) + " yes " + bitsText(bits, true)}})
			for range 10 {
				at := source.Intn(len(sent))
				answer := map[bool]string{true: "yes", false: "not"}[impl.HasCheck(p, withChange(sent, at))]
				if p%2 == 1 && answer != "not" {
					t.Fatalf("one error is missed by %d", p)
				}
				expect(t, []row{{fmt.Sprint("verify behind ", at, " of ", name), said(t, impl.Console{}, set, check, fmt.Sprint("flip y ", at), verify), "ok ok ok " + answer}})
			}
		}
	}
}

// Checks are of the bits as they stand: all short ones are compared.
func TestPromise13ChecksOfAllShortBits(t *testing.T) {
	for p := int64(-1); p < 34; p++ {
		for _, bits := range textsUpTo(6) {
			answer := map[bool]string{true: "yes", false: "not"}[impl.HasCheck(p, bits)]
			expect(t, []row{{fmt.Sprint("verify ", p, " of ", bits), said(t, consoleOf("x", bits), fmt.Sprint("verify x ", p)), answer}})
		}
	}
}

func TestPromise13Layouts(t *testing.T) {
	source := rand.New(rand.NewSource(203))
	eachBlock(func(rows, columns int) {
		bits := drawnBits(source, int64(rows*columns))
		laid, _ := impl.BlockInterleave(int64(rows), int64(columns), bits)
		unlaid, _ := impl.BlockDeinterleave(int64(rows), int64(columns), bits)
		sides := fmt.Sprint(rows, columns)
		c := consoleOf("x", bits)
		at := source.Intn(len(bits))
		behind, _ := impl.PlaceBehind(int64(rows), int64(columns), int64(at))
		expect(t, []row{
			{"lay " + sides, said(t, c, "lay y x "+sides, "show y", "unlay z y "+sides, "show z", "show x"), "ok " + laid + " ok " + bits + " " + bits},
			{"unlay " + sides, said(t, c, "unlay x x "+sides, "show x", "lay x x "+sides, "show x"), "ok " + unlaid + " ok " + bits},
			{"an error in " + sides, said(t, c, "lay y x "+sides, fmt.Sprint("flip y ", behind), "unlay y y "+sides, "show y"), "ok ok ok " + withChange(bits, at)},
			{"an error before " + sides, said(t, c, fmt.Sprint("flip x ", at), "lay y x "+sides, "show y"), "ok ok " + withChange(laid, int(behind))},
		})
		for _, length := range []int{0, rows*columns - 1, rows*columns + 1} {
			others := bitsText(strings.Repeat("0", length), true)
			if length <= 400 && length >= 0 {
				expect(t, []row{{fmt.Sprint("lay ", sides, " of ", length), said(t, impl.Console{}, "set x "+others, "lay y x "+sides, "unlay y x "+sides, "show y"), "ok no no no"}})
			}
		}
	})
}

func TestPromise13Votes(t *testing.T) {
	source := rand.New(rand.NewSource(204))
	for times := int64(-1); times <= 18; times++ {
		for length := int64(0); length <= 400; length += 1 + source.Int63n(12) {
			bits := drawnBits(source, length)
			repeatedBits, ok := impl.RepeatBits(bits, times)
			voted, isVoted := impl.VoteBits(bits, times)
			c := consoleOf("x", bits)
			repeat, vote := fmt.Sprint("repeat y x ", times), fmt.Sprint("vote y y ", times)
			answer := map[bool]string{true: "ok ", false: "no "}
			name := fmt.Sprint(times, " of ", bits)
			expect(t, []row{
				{"repeat " + name, said(t, c, repeat, "show y"), answer[ok] + bitsText(repeatedBits, ok)},
				{"vote " + name, said(t, c, fmt.Sprint("vote y x ", times), "show y"), answer[isVoted] + bitsText(voted, isVoted)},
			})
			if !ok {
				continue
			}
			expect(t, []row{{"repeat and vote " + name, said(t, c, repeat, vote, "show y"), "ok ok " + bitsText(bits, true)}})
			if length == 0 {
				continue
			}
			at := source.Intn(len(repeatedBits))
			changed, _ := impl.VoteBits(withChange(repeatedBits, at), times)
			if times > 1 && changed != bits {
				t.Fatalf("one error of %s is not outvoted", name)
			}
			expect(t, []row{{fmt.Sprint("an error at ", at, " of ", name), said(t, c, repeat, fmt.Sprint("flip y ", at), vote, "show y"), "ok ok ok " + changed}})
		}
	}
}

func TestPromise13Clocks(t *testing.T) {
	source := rand.New(rand.NewSource(205))
	for range 2000 {
		send, take := 2+source.Int63n(30), 2+source.Int63n(30)
		bits := drawnBits(source, source.Int63n(104))
		taken, ok := impl.ReceiveBits(bits, send, take, noJitter(bits))
		line := fmt.Sprint("clock y x ", send, take)
		want := "ok " + bitsText(taken, ok)
		if !ok || len(taken) > 400 {
			want = "no no"
		}
		expect(t, []row{{line + " of " + bits, said(t, consoleOf("x", bits), line, "show y"), want}})
		if run := int64(longestRunOf(bits)); ok && impl.IsTolerated(send, take, run) {
			expect(t, []row{{"what is tolerated comes back: " + line + " of " + bits, said(t, consoleOf("x", bits), line, "show y"), "ok " + bits}})
		}
	}
}

// Data come back through all layers, with an error that the votes outvote.
func TestPromise13AllTogether(t *testing.T) {
	source := rand.New(rand.NewSource(206))
	for range 300 {
		code, _ := impl.MakeBlockCode(3, 4)
		list := drawnData(source, code, 1+source.Int63n(6))
		text, _ := impl.ListText(list)
		length := 4*len(list) + 4
		got := said(t, impl.Console{}, "blocks x 3 4 -1 "+text, "check y x 19", "repeat y y 3", fmt.Sprint("lay y y 12 ", length/4), "clock y y 10 10", fmt.Sprint("flip y ", source.Intn(3*length)),
			fmt.Sprint("unlay y y 12 ", length/4), "vote y y 3", "verify y 19")
		state := strings.SplitN(got, " ", 2)[0]
		want := state + " ok ok ok ok ok ok ok yes"
		if 3*length > 100 {
			t.Fatalf("%d bits are too many for a receiver", 3*length)
		}
		expect(t, []row{{"all layers with " + text, got, want}})
	}
}

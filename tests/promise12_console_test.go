package tests

import (
	"fmt"
	"strings"
	"testing"

	"loop.example/g01142/impl"
)

// noConsole is what consoleText returns for a function that fails.
const noConsole = `[] [] "" false`

// consoleOf returns a console from names and bits by turns.
func consoleOf(words ...string) impl.Console {
	var c impl.Console
	for i := 0; i < len(words); i += 2 {
		c.Names = append(c.Names, words[i])
		c.Lines = append(c.Lines, words[i+1])
	}
	return c
}

// consoleText tells what a command or a script returns, so that a line of no bits is told from none.
func consoleText(c impl.Console, output string, ok bool) string {
	return fmt.Sprintf("%q %q %q %v", c.Names, c.Lines, output, ok)
}

// zeros returns so many bits 0.
func zeros(count int) string { return strings.Repeat("0", count) }

// fullConsole returns a console of six lines, which has room between its names.
func fullConsole() impl.Console {
	return consoleOf("b", "1", "d", "0110", "f", "", "h", "011010", "j", zeros(400), "l", "10")
}

// validConsoles are consoles at each limit.
func validConsoles() []impl.Console {
	return []impl.Console{
		{},
		{Names: []string{}, Lines: []string{}},
		consoleOf("x", ""),
		consoleOf("x", "0"),
		consoleOf("none", "1"),
		consoleOf("a", "", "b", ""),
		consoleOf("a", "01", "aa", "01", "ab", "01", "b", "01"),
		consoleOf("abcdefghij", zeros(400)),
		consoleOf("abcdefghij", "1", "zzzzzzzzzz", strings.Repeat("1", 400)),
		consoleOf("a", "0", "b", "1", "c", "00", "d", "01", "e", "10"),
		fullConsole(),
	}
}

// invalidConsoles are consoles that each break one rule.
func invalidConsoles() []impl.Console {
	consoles := []impl.Console{
		{Names: []string{"x"}},
		{Lines: []string{"0"}},
		{Lines: []string{""}},
		{Names: []string{"x", "y"}, Lines: []string{"0"}},
		{Names: []string{"x"}, Lines: []string{"0", "1"}},
		{Names: []string{"x", "y", "z"}, Lines: []string{"0", "1"}},
		consoleOf("b", "0", "a", "0"),
		consoleOf("a", "0", "c", "0", "b", "0"),
		consoleOf("ab", "0", "aa", "0"),
		consoleOf("aa", "0", "a", "0"),
		consoleOf("x", "0", "x", "0"),
		consoleOf("x", "0", "x", "1"),
		consoleOf("a", "0", "x", "0", "x", "0"),
		consoleOf("a", "0", "b", "0", "c", "0", "d", "0", "e", "0", "f", "0", "g", "0"),
		consoleOf("a", "", "b", "", "c", "", "d", "", "e", "", "f", "", "g", ""),
		consoleOf("a", "0", "b", zeros(401)),
	}
	for _, name := range noNames {
		consoles = append(consoles, consoleOf(name, "0"), consoleOf("a", "0", name, "0"), consoleOf(name, "0", "z", "0"))
	}
	for _, bits := range []string{"2", "x", "none", " ", "0 ", " 0", "01\n", "0-", "\x00", "\xff", "\uff10", zeros(401), zeros(399) + "2", zeros(100000)} {
		consoles = append(consoles, consoleOf("x", bits), consoleOf("a", "0", "x", bits), consoleOf("x", bits, "z", ""))
	}
	return consoles
}

// noNames are texts that are no names.
var noNames = []string{
	"", "X", "xX", "x1", "1", "-", "x-", "_", "x.", "`", "{", "x{", "\u00e9", "x\xff", "\x00", "x\n", "x\t", "abcdefghijk", "Abcdefghij", strings.Repeat("a", 1000),
}

func TestPromise12Limits(t *testing.T) {
	expect(t, []row{{"the limits of the document", show(impl.MaxNamed, impl.MaxScript), "6 4000"}})
}

func TestPromise12ValidConsoles(t *testing.T) {
	for _, c := range validConsoles() {
		if !impl.ValidConsole(c) {
			t.Errorf("%q is a valid console", c)
		}
	}
	for _, c := range invalidConsoles() {
		if impl.ValidConsole(c) {
			t.Errorf("%q is no valid console", c)
		}
	}
}

// A line is just a name and bits: which texts these are does not depend on the others.
func TestPromise12EachByteOfANameAndOfBits(t *testing.T) {
	for other := range 256 {
		text := string([]byte{byte(other)})
		isLetter, isBit := other >= 'a' && other <= 'z', other == '0' || other == '1'
		expect(t, []row{
			{fmt.Sprintf("the name %q", text), show(impl.ValidConsole(consoleOf(text, "0"))), show(isLetter)},
			{fmt.Sprintf("the name x%q", text), show(impl.ValidConsole(consoleOf("x"+text, "0"))), show(isLetter)},
			{fmt.Sprintf("the bits %q", text), show(impl.ValidConsole(consoleOf("x", text))), show(isBit)},
			{fmt.Sprintf("the bits 1%q0", text), show(impl.ValidConsole(consoleOf("x", "1"+text+"0"))), show(isBit)},
		})
	}
}

// Six lines are the most: one more, one name more or one line more are too many, whatever they are.
func TestPromise12SixLines(t *testing.T) {
	names, lines := strings.Split("abcdefgh", ""), strings.Split("01010101", "")
	for n := range len(names) + 1 {
		for m := range len(lines) + 1 {
			c := impl.Console{Names: names[:n], Lines: lines[:m]}
			expect(t, []row{{fmt.Sprintf("%q", c), show(impl.ValidConsole(c)), show(n == m && n <= 6)}})
		}
	}
}

// At a console that is not valid, no line is carried out, not even one that is none.
func TestPromise12InvalidConsoles(t *testing.T) {
	for _, c := range invalidConsoles() {
		for _, line := range []string{"", "what", "set x 0", "drop x", "show x", "show a", "set z none", "drop a", "data x 1 2 -1", "verify x 3"} {
			expect(t, []row{
				{fmt.Sprintf("%q at %q", line, c), consoleText(impl.ConsoleCommand(c, line)), noConsole},
				{fmt.Sprintf("the script %q at %q", line, c), consoleText(impl.RunConsole(c, line+"\n")), noConsole},
			})
		}
		expect(t, []row{{fmt.Sprintf("no script at %q", c), consoleText(impl.RunConsole(c, "")), noConsole}})
	}
}

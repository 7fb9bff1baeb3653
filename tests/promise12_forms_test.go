package tests

import (
	"fmt"
	"strings"
	"testing"

	"loop.example/g01142/impl"
)

// formLines has for each form of the document, in the same order, a line that is carried out at formConsole.
var formLines = []string{
	"set y 01", "drop x", "show x", "flip x 3", "blocks y 1 2 -1 0,1,1", "data x 1 2 -1", "lay y x 2 3", "unlay y x 2 3", "check y x 11", "verify x 11", "repeat y x 3", "vote y x 3", "clock y x 10 10",
}

func formConsole() impl.Console { return consoleOf("a", "1", "x", "011010") }

// notNumbers are words that are no numbers of the console.
var notNumbers = []string{
	"", "x", "01", "00", "-01", "+1", "+0", "-0", "-", "--1", "1-", "1.0", "1e2", "0x1", "1_0", "1,1", "none", "\t1", "1\t", "1\n", "\u0661",
	"1000000000000001", "-1000000000000001", "9223372036854775807", "9223372036854775808", "-9223372036854775809", "18446744073709551617", "99999999999999999999999999",
}

// wrongWords has for each place of a form words that are not what it needs, wherever it stands.
var wrongWords = map[string][]string{
	"NEW":  noNames,
	"NAME": append([]string{"b", "ax", "xx", "none", "011010"}, noNames...),
	"BITS": {"", "2", "x", "012", "-1", "0,1", "None", "NONE", "nonee", "non", "0\n", "\t", "\uff10", "\xff", zeros(401), zeros(400) + "x"},
	"LIST": append([]string{",", "1,", ",1", "0,,1", "0,01", "0,+1", "0,-0", "None", "none,none", "0,none", "0;1", "[0]", "0,1\n", "0,9223372036854775808", "0,1000000000000001",
		strings.Repeat("0,", 64) + "0"}, "", "x", "01", "+1", "-0", "1000000000000001", "9223372036854775808"),
	"N": notNumbers, "M": notNumbers, "D": notNumbers, "W": notNumbers, "S": notNumbers, "P": notNumbers, "R": notNumbers, "C": notNumbers,
}

// withWords returns a line of words with one of them replaced by others, or by none.
func withWords(words []string, at int, others ...string) string {
	var all []string
	all = append(all, words[:at]...)
	all = append(all, others...)
	return strings.Join(append(all, words[at+1:]...), " ")
}

// Each form has a line that is carried out.
func TestPromise12EachForm(t *testing.T) {
	for i, form := range consoleForms {
		line := formLines[i]
		words := strings.Split(line, " ")
		if len(words) != len(strings.Split(form, " ")) || !strings.HasPrefix(form, words[0]+" ") {
			t.Fatalf("%s does not have the form %s", line, form)
		}
		if _, output, ok := impl.ConsoleCommand(formConsole(), line); output == "no" || output == "what" || !ok {
			t.Errorf("%s: got %s %v", line, output, ok)
		}
	}
}

// A line with a word too few or too many, or with a blank more, has no form.
func TestPromise12LinesWithoutAForm(t *testing.T) {
	c := formConsole()
	for _, line := range formLines {
		words := strings.Split(line, " ")
		lines := []string{" " + line, line + " ", "  " + line, line + "  ", line + " " + line, " " + line + " ", strings.ReplaceAll(line, " ", "  "), strings.ReplaceAll(line, " ", "\t"), "\t" + line, "\n" + line}
		for i, word := range words {
			lines = append(lines, withWords(words, i), withWords(words, i, word, "0"), withWords(words, i, word, "x"), withWords(words, i, word, ""), withWords(words, i, word, word),
				strings.Join(words[:i], " "), strings.Join(words[:i], " ")+strings.Repeat(" ", len(words)))
		}
		checkUnchanged(t, c, "what", lines...)
	}
}

// The first word is one of the commands, in just these letters.
func TestPromise12LinesWithoutACommand(t *testing.T) {
	c := formConsole()
	for _, line := range formLines {
		words := strings.Split(line, " ")
		command := words[0]
		var lines []string
		for _, other := range []string{
			"", "fly", "x", "0", "none", "ok", "what", "NAME", strings.ToUpper(command), strings.ToUpper(command[:1]) + command[1:], command[1:], command[:len(command)-1], command + "s", "re" + command,
			command + "\t", "\t" + command, command + "\n", command + "\x00", strings.Repeat(command, 2), "un" + command + "s",
		} {
			lines = append(lines, withWords(words, 0, other))
		}
		checkUnchanged(t, c, "what", lines...)
	}
	checkUnchanged(t, c, "what", "", " ", "  ", "   ", "    ", "     ", "      ", "       ", strings.Repeat(" ", 4000), strings.Repeat(" ", 100000),
		"\t", "\n", "\r", "\x00", "\xff", "0", "1", "x", "a", "none", "no", "ok", "what", "help", "set", "show", "drop", "show\tx", "show\nx", "x show", "x 01", "ls", "quit", strings.Repeat("show x ", 1000))
}

// A word of a command is not that of another one: the number of words is told by the command.
func TestPromise12CommandsWithWordsOfOthers(t *testing.T) {
	c := formConsole()
	for _, line := range formLines {
		for _, other := range formLines {
			words, others := strings.Split(line, " "), strings.Split(other, " ")
			if len(words) != len(others) {
				checkUnchanged(t, c, "what", withWords(others, 0, words[0]))
			}
		}
	}
}

// A line with a word that is not what its place needs has a form, but is not carried out.
func TestPromise12WrongWords(t *testing.T) {
	c := formConsole()
	for i, form := range consoleForms {
		words := strings.Split(formLines[i], " ")
		for at, place := range strings.Split(form, " ") {
			for _, wrong := range wrongWords[place] {
				if at > 0 && !strings.Contains(wrong, " ") {
					checkUnchanged(t, c, "no", withWords(words, at, wrong))
				}
			}
			if at > 0 && len(wrongWords[place]) == 0 {
				t.Fatalf("no words for %s", place)
			}
		}
	}
}

// Words of several kinds stand at each place, of which two are at times wrong.
func TestPromise12AllWordsAtAllPlaces(t *testing.T) {
	c := consoleOf("a", "1", "none", "01", "x", "011010")
	pool := []string{"", "a", "x", "y", "none", "Q", "0", "1", "2", "3", "-1", "01", "10", "0,1", "1000000000000001"}
	for _, form := range consoleForms {
		places := strings.Split(form, " ")
		if len(places) > 4 {
			pool = pool[:0:0]
			pool = append(pool, "", "x", "y", "none", "-1", "1", "2", "3")
		}
		lines := []string{places[0]}
		for range places[1:] {
			var longer []string
			for _, line := range lines {
				for _, word := range pool {
					longer = append(longer, line+" "+word)
				}
			}
			lines = longer
		}
		for _, line := range lines {
			checkLine(t, c, line)
		}
	}
}

// checkLine compares what a line does with the model of a console.
func checkLine(t *testing.T, c impl.Console, line string) impl.Console {
	t.Helper()
	m := modelOf(c)
	output := m.answer(line)
	after, got, ok := impl.ConsoleCommand(c, line)
	if got := consoleText(after, got, ok); got != consoleText(m.console(), output, true) {
		t.Errorf("%q at %q: got %s, want %s", line, c, got, consoleText(m.console(), output, true))
	}
	if !impl.ValidConsole(after) {
		t.Fatalf("%q at %q: %q is not valid", line, c, after)
	}
	return after
}

// Numbers are read as they stand, at each place of each form.
func TestPromise12NumbersAtAllPlaces(t *testing.T) {
	c := formConsole()
	numbers := []string{"-1000000000000000", "-2147483649", "-400", "-2", "-1", "0", "1", "2", "3", "4", "5", "6", "7", "10", "11", "12", "13", "15", "16", "20", "21", "100", "400", "401",
		"1000", "1001", "131071", "131072", "4294967296", "4294967299", "1000000000000000"}
	for i, form := range consoleForms {
		words := strings.Split(formLines[i], " ")
		for at, place := range strings.Split(form, " ") {
			if len(place) > 1 && place != "LIST" {
				continue
			}
			for _, number := range numbers {
				checkLine(t, c, withWords(words, at, number))
			}
		}
	}
	expect(t, []row{{"the forms of the document", fmt.Sprint(len(consoleForms)), "13"}})
}

package tests

import (
	"fmt"
	"maps"
	"math/rand"
	"slices"
	"strconv"
	"strings"
	"testing"

	"loop.example/g01142/impl"
)

// checkScript compares a script with the model, and with its lines carried out one after another.
func checkScript(t *testing.T, c impl.Console, lines []string) impl.Console {
	t.Helper()
	m, single := modelOf(c), c
	script, outputs := "", ""
	for _, line := range lines {
		script += line + "\n"
		outputs += m.answer(line) + "\n"
		single = checkLine(t, single, line)
	}
	after, got, ok := impl.RunConsole(c, script)
	if got := consoleText(after, got, ok); got != consoleText(m.console(), outputs, true) || fmt.Sprintf("%q", after) != fmt.Sprintf("%q", single) {
		t.Errorf("%q at %q: got %s, want %s", script, c, got, consoleText(m.console(), outputs, true))
	}
	return after
}

// lineSource draws lines of scripts.
type lineSource struct{ *rand.Rand }

func (s lineSource) pick(words ...string) string { return words[s.Intn(len(words))] }

// word returns a word for a place of a form, which is mostly one that can stand there behind other words.
func (s lineSource) word(m consoleModel, words []string, place string) string {
	if s.Intn(40) == 0 {
		return s.pick("", "x", "none", "01", "-1", "0", "Q", "0,1", "1000000000000001")
	}
	length := len(m[words[len(words)-1]])
	switch place {
	case "NAME":
		return s.pick(append(slices.Sorted(maps.Keys(m)), "h")...)
	case "NEW":
		return s.pick("a", "b", "c", "d", "e", "f", "g", "none")
	case "BITS":
		return s.pick("none", "0", "1", "0110", "011010", drawnBits(s.Rand, int64(1+s.Intn(24))), drawnBits(s.Rand, int64(380+s.Intn(25))))
	case "LIST":
		return s.pick("none", "0", "0,1,1", "3,2,1,0", "-1", strings.TrimSuffix(strings.Repeat("1,", 1+s.Intn(66)), ","))
	case "D":
		return s.pick("1", "1", "2", "3", "7")
	case "W":
		return s.pick("2", "4", "4", "6", "3")
	case "S":
		return s.pick("-1", "1", "-1", "1", "0")
	case "P":
		return s.pick("3", "11", "2", "12", "1", "131071")
	case "R":
		return fmt.Sprint(greatestCommon(int64(length), int64(1+s.Intn(20))))
	case "C":
		rows, _ := strconv.Atoi(words[len(words)-1])
		return fmt.Sprint(len(m[words[len(words)-2]]) / max(rows, 1))
	}
	return s.pick("0", "1", "3", "3", "5", "10", "1000", fmt.Sprint(s.Intn(length+1)))
}

// line returns a line, which mostly has a form and can be carried out at a console.
func (s lineSource) line(m consoleModel) string {
	places := strings.Split(s.pick(append(consoleForms, "set NEW BITS", "set NEW BITS", "show NAME")...), " ")
	words := places[:1:1]
	for _, place := range places[1:] {
		words = append(words, s.word(m, words, place))
	}
	switch s.Intn(40) {
	case 0:
		words = words[1:]
	case 1:
		words = append(words, s.pick("", "x", "0"))
	case 2:
		return s.pick("", " ", "fly", "show", "SHOW x")
	}
	return strings.Join(words, " ")
}

// lines returns lines for a console.
func (s lineSource) lines(c impl.Console, count int) []string {
	m := modelOf(c)
	lines := make([]string, count)
	for i := range lines {
		lines[i] = s.line(m)
		m.answer(lines[i])
	}
	return lines
}

func TestPromise12Scripts(t *testing.T) {
	source := lineSource{rand.New(rand.NewSource(190))}
	answers := map[string]int{}
	for range 1500 {
		c := validConsoles()[source.Intn(len(validConsoles()))]
		lines := source.lines(c, source.Intn(40))
		script := strings.Join(append(lines, ""), "\n")
		if len(script) > 4000 {
			continue
		}
		checkScript(t, c, lines)
		_, outputs, _ := impl.RunConsole(c, script)
		for _, output := range strings.Fields(outputs) {
			answers[output]++
		}
	}
	// Scripts of which nearly all lines have the same output would tell little.
	for _, output := range []string{"ok", "no", "what", "yes", "not", "none", "-1", "1"} {
		if answers[output] < 100 {
			t.Errorf("the scripts have %d lines with the output %s", answers[output], output)
		}
	}
}

func TestPromise12ScriptExamples(t *testing.T) {
	c := consoleOf("x", "0110")
	for _, e := range []struct {
		script  string
		outputs string
		after   impl.Console
	}{
		{"", "", c},
		{"\n", "what\n", c},
		{"\n\n\n", "what\nwhat\nwhat\n", c},
		{" \n", "what\n", c},
		{"show x\n", "0110\n", c},
		{"show x\n\nshow x\n", "0110\nwhat\n0110\n", c},
		{"show y\nshow x\n", "no\n0110\n", c},
		{"show x \n", "what\n", c},
		{"show x\r\n", "no\n", c},
		{"show x\x00\nshow x\n", "no\n0110\n", c},
		{"fly\nset y 1\n", "what\nok\n", consoleOf("x", "0110", "y", "1")},
		{"set y 2\nset y 1\nset Y 1\n", "no\nok\nno\n", consoleOf("x", "0110", "y", "1")},
		{"set y none\nshow y\ndrop x\nshow x\n", "ok\nnone\nok\nno\n", consoleOf("y", "")},
		{"drop x\ndrop x\n", "ok\nno\n", impl.Console{}},
		{"set c 1\nset a 1\nset b 1\nset d 1\nset e 1\nset f 1\nset a 0\ndrop c\nset f 1\n", "ok\nok\nok\nok\nok\nno\nok\nok\nok\n", consoleOf("a", "0", "b", "1", "d", "1", "e", "1", "f", "1", "x", "0110")},
		{"flip x 0\nflip x 0\nflip x 3\n", "ok\nok\nok\n", consoleOf("x", "0111")},
		{"check y x 11\nflip y 0\nverify y 11\nflip y 0\nverify y 11\n", "ok\nok\nnot\nok\nyes\n", consoleOf("x", "0110", "y", "0110001")},
		{"repeat x x 3\nflip x 2\nflip x 11\nvote x x 3\nshow x\n", "ok\nok\nok\nok\n0110\n", c},
	} {
		expect(t, []row{{fmt.Sprintf("the script %q", e.script), consoleText(impl.RunConsole(c, e.script)), consoleText(e.after, e.outputs, true)}})
	}
}

// A script that is not empty ends with a newline, and has at most 4000 bytes.
func TestPromise12ScriptsThatFail(t *testing.T) {
	full := strings.Repeat("show x\n", 571) + "x\n"
	for _, script := range []string{
		"show x", "x", " ", "\r", "show x\nshow x", "\nshow x", "\n\n ", "show x\n ", "show x\n\x00", "show x\n\r", "show x\v", "set y 1\nset z 1",
		full + "x\n", full + "\n\n\n", strings.Repeat("\n", 4001), strings.Repeat("\n", 100000), strings.Repeat("x", 4000) + "\n", strings.Repeat("x", 4000), strings.Repeat("x", 4001),
		strings.Repeat(" ", 5000) + "\n",
	} {
		expect(t, []row{{fmt.Sprintf("the script %q", script), consoleText(impl.RunConsole(consoleOf("x", "0"), script)), noConsole}})
	}
}

func TestPromise12LongScripts(t *testing.T) {
	c := consoleOf("x", "0")
	for _, e := range []struct {
		script  string
		outputs string
	}{
		{strings.Repeat("\n", 4000), strings.Repeat("what\n", 4000)},
		{strings.Repeat("show x\n", 571) + "x\n\n", strings.Repeat("0\n", 571) + "what\nwhat\n"},
		{strings.Repeat("x", 3999) + "\n", "what\n"},
		{strings.Repeat(" ", 3999) + "\n", "what\n"},
		{"set x " + strings.Repeat("0", 3993) + "\n", "no\n"},
		{strings.Repeat("x", 3998) + "\n", "what\n"},
	} {
		if len(e.script) > 4000 || len(e.script) < 3999 {
			t.Fatalf("a script of %d bytes is not long", len(e.script))
		}
		expect(t, []row{{fmt.Sprintf("the script %q", e.script), consoleText(impl.RunConsole(c, e.script)), consoleText(c, e.outputs, true)}})
	}
	// What is output can be longer than a script can be.
	many := consoleOf("x", strings.Repeat("01", 200))
	expect(t, []row{{"a long output", consoleText(impl.RunConsole(many, strings.Repeat("show x\n", 571))), consoleText(many, strings.Repeat(strings.Repeat("01", 200)+"\n", 571), true)}})
}

// A script does what its lines do, wherever it is cut into two scripts.
func TestPromise12ScriptsInParts(t *testing.T) {
	source := lineSource{rand.New(rand.NewSource(191))}
	for range 60 {
		lines := source.lines(fullConsole(), 12)
		script := strings.Join(append(lines, ""), "\n")
		whole, outputs, ok := impl.RunConsole(fullConsole(), script)
		if !ok {
			continue
		}
		for at := range len(lines) + 1 {
			cut := len(strings.Join(append(lines[:at:at], ""), "\n"))
			first, before, _ := impl.RunConsole(fullConsole(), script[:cut])
			second, behind, ok := impl.RunConsole(first, script[cut:])
			expect(t, []row{{fmt.Sprintf("%q cut at %d", script, cut), consoleText(second, before+behind, ok), consoleText(whole, outputs, true)}})
		}
	}
}

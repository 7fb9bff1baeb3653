package tests

import (
	"fmt"
	"reflect"
	"slices"
	"strings"
	"testing"

	"loop.example/g01142/impl"
)

var chapter11 = map[string]any{
	"ValidConsole":   impl.ValidConsole,
	"ConsoleCommand": impl.ConsoleCommand,
	"RunConsole":     impl.RunConsole,
	"JournalOf":      impl.JournalOf,
	"RecoverJournal": impl.RecoverJournal,
}

// consolePool has consoles of all sorts, of which none is very long.
func consolePool() []impl.Console {
	pool := append(validConsoles(), formConsole(), consoleOf("x", "011010", "y", ""), consoleOf("x", zeros(101)), consoleOf("x", zeros(399)))
	for i, c := range invalidConsoles() {
		if i%3 == 0 && len(fmt.Sprint(c)) < 2000 {
			pool = append(pool, c)
		}
	}
	return pool
}

// consoleTexts are lines, scripts and journals.
func consoleTexts() []string {
	texts := []string{
		"", "\n", " ", "  \n", "\x00", "\xff\n", "102 a\n102 \n", "102 a\n102 \nxx", "101 a\n", "0 \n0 \n", "0102 a\n", "set x 0", "set b 0\n", "set a none\nset c 1\n", "set z 1\ndrop z\n",
		"drop b\ndrop x\nshow x\n", "flip x 0\nflip b 0\nflip a 0\n", "set x 2", "set x " + zeros(401) + "\n", "repeat x x 9\n", "clock x x 1000 2\n", "set aa 1\nset ab 1\nset ac 1\nset ad 1\nset ae 1\nset af 1\n",
		strings.Repeat("\n", 4001), strings.Repeat("0 \n", 1333), strings.Repeat("show x\n", 571), strings.Repeat(" ", 5000), strings.Repeat("x", 20000), "show x\nshow y",
		"blocks x 9223372036854775807 9223372036854775807 -9223372036854775808 9223372036854775807\n", "lay x x 9223372036854775807 -9223372036854775808\n", "verify x -9223372036854775808\n",
		"flip x 1000000000000000\n", "check x x 1000000000000000\n", "vote x x -1000000000000000\n", "clock x x 1000000000000000 1000000000000000\n",
	}
	for _, line := range formLines {
		texts = append(texts, line, line+"\n", strings.ReplaceAll(line, "x", "b")+"\n", line+"\n"+line+"\nshow x\n")
	}
	return texts
}

func TestPromise1Chapter11(t *testing.T) {
	lists := append(journalLists(), []string{"a\nb"}, []string{"\n"}, repeated("", 1333), repeated("", 1334), []string{strings.Repeat("x", 5000)}, formLines)
	checkChapter(t, chapter11, poolsOf(pooled(consolePool()), pooled(consoleTexts()), pooled(lists)))
}

// Functions return for texts that are much longer than any limit.
func TestPromise1VeryLongTexts(t *testing.T) {
	c := consoleOf("x", "0")
	for _, part := range []string{" ", "x", "0", "\n", "0,", "-", "\x00", "0 \n", "show x "} {
		text := strings.Repeat(part, 300000)
		for _, line := range []string{text, "show " + text, "set x " + text, "set " + text + " 0", "flip x " + text, "blocks x 1 2 -1 " + text} {
			_, output, ok := impl.ConsoleCommand(c, line)
			words := strings.Split(line, " ")
			want := "what"
			if _, _, isForm := wordsByPlace(line); isForm {
				want = "no"
			}
			if output != want || !ok {
				t.Errorf("%d words that begin with %.20q: got %s %v", len(words), line, output, ok)
			}
		}
		expect(t, []row{
			{"a very long script", consoleText(impl.RunConsole(c, text+"\n")), noConsole},
			{"a very long line", show(impl.JournalOf([]string{text})), noText},
			{"very many lines", show(impl.JournalOf(repeated(part, 300000))), noText},
			{"a very long text", recoveryText(impl.RecoverJournal(text)), noRecovery},
			{"a very long name", show(impl.ValidConsole(consoleOf(text, "0"))), "false"},
			{"very many bits", show(impl.ValidConsole(consoleOf("x", text))), "false"},
		})
	}
	many := impl.Console{Names: repeated("x", 300000), Lines: repeated("0", 300000)}
	expect(t, []row{{"very many names", consoleText(impl.ConsoleCommand(many, "show x")), noConsole}, {"very many names, and a script", consoleText(impl.RunConsole(many, "")), noConsole}})
}

func TestPromise1NilAndEmptyConsolesAreTheSame(t *testing.T) {
	none := impl.Console{Names: []string{}, Lines: []string{}}
	expect(t, []row{
		{"ValidConsole", show(impl.ValidConsole(impl.Console{})), show(impl.ValidConsole(none))},
		{"ValidConsole with nil names", show(impl.ValidConsole(impl.Console{Lines: []string{}})), "true"},
		{"ValidConsole with nil lines", show(impl.ValidConsole(impl.Console{Names: []string{}})), "true"},
		{"JournalOf", show(impl.JournalOf(nil)), show(impl.JournalOf([]string{}))},
	})
	for _, text := range consoleTexts() {
		expect(t, []row{
			{"ConsoleCommand " + text, consoleText(impl.ConsoleCommand(impl.Console{}, text)), consoleText(impl.ConsoleCommand(none, text))},
			{"RunConsole " + text, consoleText(impl.RunConsole(impl.Console{}, text)), consoleText(impl.RunConsole(none, text))},
		})
	}
}

// consoleCalls calls all functions of chapter 11, and returns all that they return.
func consoleCalls() string {
	var all []string
	for _, line := range append([]string{"", "fly", "show b", "set y 2"}, formLines...) {
		all = append(all, consoleText(impl.ConsoleCommand(formConsole(), line)))
	}
	journal, ok := impl.JournalOf(formLines)
	return strings.Join(append(all, consoleText(impl.RunConsole(formConsole(), strings.Join(append(formLines[:len(formLines):len(formLines)], ""), "\n"))),
		show(journal, ok), recoveryText(impl.RecoverJournal(journal+"x")), show(impl.ValidConsole(formConsole()))), "; ")
}

// The lines and words of one call leave nothing to the next one, whatever has been called before it.
func TestPromise1ConsolesAreNotKept(t *testing.T) {
	first := consoleCalls()
	for _, c := range consolePool() {
		for _, text := range consoleTexts() {
			impl.ValidConsole(c)
			impl.ConsoleCommand(c, text)
			impl.RunConsole(c, text)
			impl.RecoverJournal(text)
			impl.JournalOf(strings.Split(text, "\n"))
		}
		if again := consoleCalls(); again != first {
			t.Fatalf("behind %q: got %s, and first %s", c, again, first)
		}
	}
}

// Consoles that are run at the same time have nothing to do with each other.
func TestPromise1ConsolesAtTheSameTime(t *testing.T) {
	first := consoleCalls()
	shared := fullConsole()
	for i := range 40 {
		t.Run(fmt.Sprint(i), func(t *testing.T) {
			t.Parallel()
			for n := range 20 {
				checkScript(t, shared, []string{"flip d 1", fmt.Sprint("flip j ", 20*i+n), "drop f", "show j", fmt.Sprint("repeat c l ", 2*n+1), "show c"})
				if again := consoleCalls(); again != first {
					t.Errorf("got %s, and first %s", again, first)
				}
			}
		})
	}
}

// A console that is returned is neither an argument nor another result, also if nothing has changed.
func TestPromise1ResultsOfConsolesShareNoMemory(t *testing.T) {
	lines := append([]string{"", "fly", "no", "show x", "show b", "set x 2", "set a 1", "set b 1", "set x 011010", "set none none", "flip x 9"}, formLines...)
	for _, line := range lines {
		c := consoleOf("a", "1", "m", "", "x", "011010")
		for name, get := range map[string]func() (impl.Console, string, bool){
			"the line ":         func() (impl.Console, string, bool) { return impl.ConsoleCommand(c, line) },
			"the script ":       func() (impl.Console, string, bool) { return impl.RunConsole(c, line+"\n") },
			"the empty script ": func() (impl.Console, string, bool) { return impl.RunConsole(c, "") },
			"twice the line ":   func() (impl.Console, string, bool) { return impl.RunConsole(c, line+"\n"+line+"\n") },
		} {
			first, _, _ := get()
			second, output, ok := get()
			want := consoleText(second, output, ok)
			fill(reflect.ValueOf(first), 47)
			if got := consoleText(second, output, ok); got != want {
				t.Errorf("%s%q: another result has become %s", name, line, got)
			}
			if got := consoleText(get()); got != want {
				t.Errorf("%s%q: returned %s, and then %s", name, line, want, got)
			}
			if got := fmt.Sprintf("%q", c); got != fmt.Sprintf("%q", consoleOf("a", "1", "m", "", "x", "011010")) {
				t.Errorf("%s%q: the argument has become %s", name, line, got)
			}
			fill(reflect.ValueOf(c), 48)
			if got := consoleText(second, output, ok); got != want {
				t.Errorf("%s%q: has become %s when the argument was overwritten", name, line, got)
			}
			c = consoleOf("a", "1", "m", "", "x", "011010")
		}
	}
	journal := journalReference(formLines)
	first, _, _ := impl.RecoverJournal(journal)
	second, length, ok := impl.RecoverJournal(journal)
	fill(reflect.ValueOf(first), 49)
	expect(t, []row{{"lines of a journal", recoveryText(second, length, ok), recoveryText(formLines, int64(len(journal)), true)}})
	fill(reflect.ValueOf(second), 50)
	expect(t, []row{{"lines of a journal, again", recoveryText(impl.RecoverJournal(journal)), recoveryText(formLines, int64(len(journal)), true)}})
}

// A command changes no list of the console that it is given, also where it has room for more.
func TestPromise1CommandsChangeNoConsole(t *testing.T) {
	names, lines := []string{"b", "d", "x", "free", "free"}, []string{"1", "0110", "011010", "free", "free"}
	allNames, allLines := slices.Clone(names), slices.Clone(lines)
	for _, line := range append([]string{"set a 1", "set c 1", "set e 1", "set z 1", "set b 0", "set x none", "drop b", "drop d", "drop x", "flip x 0", "flip b 0"}, formLines...) {
		for _, further := range []string{"", "drop d\n", "set a 0\nset e 0\ndrop b\nflip x 1\n"} {
			c := impl.Console{Names: names[:3], Lines: lines[:3]}
			impl.ConsoleCommand(c, line)
			impl.RunConsole(c, line+"\n"+further)
			if !slices.Equal(names, allNames) || !slices.Equal(lines, allLines) {
				t.Fatalf("%q and %q: the lists have become %q and %q", line, further, names, lines)
			}
		}
	}
}

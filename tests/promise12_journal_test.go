package tests

import (
	"fmt"
	"math/rand"
	"strings"
	"testing"

	"loop.example/g01142/impl"
)

// noRecovery is what recoveryText returns for a function that fails.
const noRecovery = `[] 0 false`

// recoveryText tells what RecoverJournal returns, so that an empty line is told from none.
func recoveryText(lines []string, length int64, ok bool) string {
	return fmt.Sprintf("%q %d %v", lines, length, ok)
}

// journalReference returns the journal of lines.
func journalReference(lines []string) string {
	journal := ""
	var check int64
	for _, line := range lines {
		check = checkReference(check, line)
		journal += fmt.Sprintf("%d %s\n", check, line)
	}
	return journal
}

// recoverReference takes away lines of a text until the others are its beginning as a journal.
func recoverReference(text string) ([]string, int64, bool) {
	var lines []string
	parts := strings.Split(text, "\n")
	for _, part := range parts[:len(parts)-1] {
		lines = append(lines, part[strings.Index(part, " ")+1:])
	}
	for !strings.HasPrefix(text, journalReference(lines)) {
		lines = lines[:len(lines)-1]
	}
	return lines, int64(len(journalReference(lines))), true
}

// journalLists are lines of journals.
func journalLists() [][]string {
	return [][]string{
		nil, {}, {""}, {"", ""}, {"", "", ""}, {" "}, {"  "}, {"a"}, {"a", ""}, {"", "a"}, {"a", "a", "a"}, {" a", "a ", " a "}, {"a b c", "a  b"}, {"102 a"}, {"102 a", "102 a"}, {"0 ", "5 "},
		{"set x 0110", "flip x 2", "", "fly", "show x"}, {"a\tb", "a\rb", "\x00", "\xff\xfe", "\u00e9\uff10", "\r"}, {"none"}, {"-1", "+1", "01"}, {strings.Repeat("x", 3000), "y"},
	}
}

func TestPromise12JournalExamples(t *testing.T) {
	expect(t, []row{
		{"a and nothing", show(impl.JournalOf([]string{"a", ""})), show("102 a\n102 \n", true)},
		{"no lines", show(impl.JournalOf(nil)), `"" true`},
		{"one empty line", show(impl.JournalOf([]string{""})), show("0 \n", true)},
		{"three empty lines", show(impl.JournalOf([]string{"", "", ""})), show("0 \n0 \n0 \n", true)},
		{"a and a", show(impl.JournalOf([]string{"a", "a"})), show("102 a\n46192 a\n", true)},
		{"a blank", show(impl.JournalOf([]string{" "})), show("37  \n", true)},
		{"a line with blanks", show(impl.JournalOf([]string{"a b"})), show(journalReference([]string{"a b"}), true)},
		{"a line with a newline", show(impl.JournalOf([]string{"a\nb"})), noText},
		{"a newline", show(impl.JournalOf([]string{"\n"})), noText},
		{"a newline at the end", show(impl.JournalOf([]string{"a\n"})), noText},
		{"a newline at the beginning", show(impl.JournalOf([]string{"\na"})), noText},
		{"a newline in the last line", show(impl.JournalOf([]string{"a", "b", "c\n"})), noText},
		{"a newline in the first line", show(impl.JournalOf([]string{"a\n", "b", "c"})), noText},
		{"a long line with a newline", show(impl.JournalOf([]string{strings.Repeat("a", 2000) + "\n"})), noText},
		{"the journal of the document", recoveryText(impl.RecoverJournal("102 a\n102 \nxx")), `["a" ""] 11 true`},
		{"a wrong number", recoveryText(impl.RecoverJournal("101 a\n")), `[] 0 true`},
		{"no text", recoveryText(impl.RecoverJournal("")), `[] 0 true`},
		{"a newline alone", recoveryText(impl.RecoverJournal("\n")), `[] 0 true`},
		{"an empty line", recoveryText(impl.RecoverJournal("0 \n")), `[""] 3 true`},
		{"an empty line without its blank", recoveryText(impl.RecoverJournal("0\n")), `[] 0 true`},
		{"an empty line without its number", recoveryText(impl.RecoverJournal(" \n")), `[] 0 true`},
		{"no number and no blank", recoveryText(impl.RecoverJournal("a\n")), `[] 0 true`},
		{"no blank", recoveryText(impl.RecoverJournal("102a\n")), `[] 0 true`},
		{"two blanks", recoveryText(impl.RecoverJournal("102  a\n")), `[] 0 true`},
		{"no newline", recoveryText(impl.RecoverJournal("102 a")), `[] 0 true`},
		{"no newline behind the second line", recoveryText(impl.RecoverJournal("102 a\n102 ")), `["a"] 6 true`},
		{"another end of a line", recoveryText(impl.RecoverJournal("102 a\r\n")), `[] 0 true`},
	})
}

// A check number goes on from the line before, so that the same line has another one.
func TestPromise12Journals(t *testing.T) {
	source := rand.New(rand.NewSource(192))
	lists := journalLists()
	for range 300 {
		lists = append(lists, drawnLines(source, source.Intn(12)))
	}
	for _, lines := range lists {
		want := journalReference(lines)
		expect(t, []row{
			{fmt.Sprintf("JournalOf %q", lines), show(impl.JournalOf(lines)), show(want, true)},
			{fmt.Sprintf("RecoverJournal %q", want), recoveryText(impl.RecoverJournal(want)), recoveryText(lines, int64(len(want)), true)},
		})
		for _, behind := range []string{"\n", "\n\n", "x", "x\n", " ", "0", "-1 \n", " \nx", "102", "0 \x00", strings.Repeat("\n", 4000-len(want))} {
			expect(t, []row{{fmt.Sprintf("RecoverJournal %q", want+behind), recoveryText(impl.RecoverJournal(want + behind)), recoveryText(lines, int64(len(want)), true)}})
		}
	}
}

// drawnLines returns lines of bytes that matter to journals.
func drawnLines(source *rand.Rand, count int) []string {
	lines := make([]string, count)
	for i := range lines {
		for range source.Intn(12) {
			lines[i] += string("a1 0-\t\x00\xff\r+"[source.Intn(10)])
		}
	}
	return lines
}

// What is cut off of a journal loses the line that is cut, and those behind it.
func TestPromise12CutJournals(t *testing.T) {
	for _, lines := range journalLists() {
		journal := journalReference(lines)
		for cut := range len(journal) + 1 {
			whole := strings.Count(journal[:cut], "\n")
			want := recoveryText(lines[:whole], int64(len(journalReference(lines[:whole]))), true)
			expect(t, []row{{fmt.Sprintf("RecoverJournal %q", journal[:cut]), recoveryText(impl.RecoverJournal(journal[:cut])), want}})
		}
		for begin := 1; begin <= min(len(journal), 60); begin++ {
			expect(t, []row{{fmt.Sprintf("RecoverJournal %q", journal[begin:]), recoveryText(impl.RecoverJournal(journal[begin:])), recoveryText(recoverReference(journal[begin:]))}})
		}
	}
}

// A byte that has become any other one loses its line, and all behind it, and none before it.
func TestPromise12JournalsWithAnotherByte(t *testing.T) {
	for _, lines := range [][]string{{"set x 0110", "", "flip x 2", "102 a", "a  b ", "what"}, {"", "", ""}, {"a"}, {" ", "\x00", "-1"}} {
		journal := journalReference(lines)
		for at := range len(journal) {
			before := strings.Count(journal[:at], "\n")
			want := recoveryText(lines[:before], int64(len(journalReference(lines[:before]))), true)
			for other := range 256 {
				if byte(other) == journal[at] {
					continue
				}
				text := journal[:at] + string([]byte{byte(other)}) + journal[at+1:]
				expect(t, []row{{fmt.Sprintf("RecoverJournal %q", text), recoveryText(impl.RecoverJournal(text)), want}})
			}
		}
	}
}

// A byte more or less is seen as well, except where the journal stays one.
func TestPromise12JournalsWithOtherLengths(t *testing.T) {
	for _, lines := range journalLists()[:17] {
		journal := journalReference(lines)
		for at := range len(journal) + 1 {
			texts := []string{journal[:at] + journal[min(at+1, len(journal)):], journal[:at] + journal + journal[at:]}
			for _, further := range []string{"0", "1", "+", "-", " ", "a", "\n", "\r", "\x00", "0 \n", "102 a\n", " \n"} {
				texts = append(texts, journal[:at]+further+journal[at:])
			}
			for _, text := range texts {
				expect(t, []row{{fmt.Sprintf("RecoverJournal %q", text), recoveryText(impl.RecoverJournal(text)), recoveryText(recoverReference(text))}})
			}
		}
	}
}

// A check number is right only as it is in decimal.
func TestPromise12NumbersOfJournals(t *testing.T) {
	lines := []string{"set x 0110", "", "a", "flip x 2"}
	entries := strings.SplitAfter(journalReference(lines), "\n")
	for i, entry := range entries[:len(lines)] {
		number, rest, _ := strings.Cut(entry, " ")
		before := strings.Join(entries[:i], "")
		var value int
		fmt.Sscan(number, &value)
		for _, other := range []string{
			"0" + number, "00" + number, "+" + number, "-" + number, "+0" + number, number + "0", " " + number, "\t" + number, number + "\t", number + ".0", number + ".", "0x" + number, number + "e0", "",
			fmt.Sprint(value + 1), fmt.Sprint(value - 1), fmt.Sprint(value + impl.CheckSize), fmt.Sprint(value - impl.CheckSize), number + "," + number, fmt.Sprintf("%x", value+1000000),
		} {
			text := before + other + " " + rest + strings.Join(entries[i+1:], "")
			expect(t, []row{{fmt.Sprintf("RecoverJournal %q", text), recoveryText(impl.RecoverJournal(text)), recoveryText(lines[:i], int64(len(before)), true)}})
		}
	}
	expect(t, []row{
		{"zero with a sign", recoveryText(impl.RecoverJournal("-0 \n")), `[] 0 true`},
		{"zero with a plus", recoveryText(impl.RecoverJournal("+0 \n")), `[] 0 true`},
		{"zero with a zero", recoveryText(impl.RecoverJournal("00 \n")), `[] 0 true`},
	})
}

// What stands behind a wrong line is lost, even if it would go on from it, or from the line before it.
func TestPromise12LinesBehindAWrongOne(t *testing.T) {
	first := journalReference([]string{"a"})
	for _, wrong := range []string{"x\n", "\n", "101 b\n", "102\n", "0 b\n", "b\n", " \n"} {
		for _, behind := range []string{journalReference([]string{"a", "b", "c"}), journalReference([]string{"a", "b"})[len(first):], "0 \n", "102 \n", "102 a\n", "102 \n102 \n102 \n"} {
			expect(t, []row{
				{fmt.Sprintf("RecoverJournal %q", first+wrong+behind), recoveryText(impl.RecoverJournal(first + wrong + behind)), `["a"] 6 true`},
				{fmt.Sprintf("RecoverJournal %q", wrong+behind), recoveryText(impl.RecoverJournal(wrong + behind)), `[] 0 true`},
			})
		}
	}
}

// Journals and their texts have at most 4000 bytes.
func TestPromise12LongJournals(t *testing.T) {
	lists := [][]string{repeated("", 1333), {strings.Repeat("x", 1990), strings.Repeat("y", 1990)}}
	for _, lines := range lists {
		journal := journalReference(lines)
		for length := 3990 - len(journal); length <= 4010-len(journal); length++ {
			if length < 0 {
				continue
			}
			longer := append(lines[:len(lines):len(lines)], strings.Repeat("z", length))
			want := journalReference(longer)
			name := fmt.Sprintf("a journal of %d bytes", len(want))
			if len(want) > 4000 {
				expect(t, []row{{name, show(impl.JournalOf(longer)), noText}, {name, recoveryText(impl.RecoverJournal(want)), noRecovery}})
				continue
			}
			expect(t, []row{{name, show(impl.JournalOf(longer)), show(want, true)}, {name, recoveryText(impl.RecoverJournal(want)), recoveryText(longer, int64(len(want)), true)}})
		}
	}
	longest := strings.Repeat("x", 3993)
	for len(journalReference([]string{longest})) < 4000 {
		longest += "x"
	}
	expect(t, []row{
		{"one line of 4000 bytes", show(impl.JournalOf([]string{longest})), show(journalReference([]string{longest}), true)},
		{"one line of 4001 bytes", show(impl.JournalOf([]string{longest + "x"})), noText},
		{"the bytes of both", show(len(journalReference([]string{longest})), len(journalReference([]string{longest + "x"}))), "4000 4001"},
		{"1333 empty lines", show(impl.JournalOf(repeated("", 1333))), show(strings.Repeat("0 \n", 1333), true)},
		{"1334 empty lines", show(impl.JournalOf(repeated("", 1334))), noText},
		{"many empty lines", show(impl.JournalOf(repeated("", 100000))), noText},
		{"a very long line", show(impl.JournalOf([]string{strings.Repeat("x", 100000)})), noText},
		{"a text of 4000 bytes", recoveryText(impl.RecoverJournal("102 a\n" + strings.Repeat("x", 3994))), `["a"] 6 true`},
		{"a text of 4001 bytes", recoveryText(impl.RecoverJournal("102 a\n" + strings.Repeat("x", 3995))), noRecovery},
		{"4000 newlines", recoveryText(impl.RecoverJournal(strings.Repeat("\n", 4000))), `[] 0 true`},
		{"4001 newlines", recoveryText(impl.RecoverJournal(strings.Repeat("\n", 4001))), noRecovery},
		{"a very long text", recoveryText(impl.RecoverJournal(strings.Repeat("0 \n", 100000))), noRecovery},
	})
}

// The lines of a script that are recovered from a cut journal lead to the console behind them.
func TestPromise12ScriptsFromJournals(t *testing.T) {
	source := lineSource{rand.New(rand.NewSource(193))}
	for range 40 {
		lines := source.lines(impl.Console{}, 10)
		journal, ok := impl.JournalOf(lines)
		if !ok {
			continue
		}
		for range 20 {
			cut := source.Intn(len(journal) + 1)
			text := journal[:cut] + source.pick("", "0 \n", "x\n", "\n", "1")
			recovered, length, ok := impl.RecoverJournal(text)
			expect(t, []row{{fmt.Sprintf("RecoverJournal %q", text), recoveryText(recovered, length, ok), recoveryText(recoverReference(text))}})
			checkScript(t, impl.Console{}, recovered)
		}
	}
}

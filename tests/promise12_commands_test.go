package tests

import (
	"fmt"
	"strings"
	"testing"

	"loop.example/g01142/impl"
)

// step is a line, its output, and the console after it.
type step struct {
	line   string
	output string
	after  impl.Console
}

// checkSteps carries out each line alone at a console, and compares what it returns.
func checkSteps(t *testing.T, c impl.Console, steps []step) {
	t.Helper()
	for _, s := range steps {
		expect(t, []row{{fmt.Sprintf("%q at %q", s.line, c), consoleText(impl.ConsoleCommand(c, s.line)), consoleText(s.after, s.output, true)}})
		if len(s.line) < 4000 && !strings.Contains(s.line, "\n") {
			expect(t, []row{{fmt.Sprintf("the script %q at %q", s.line, c), consoleText(impl.RunConsole(c, s.line+"\n")), consoleText(s.after, s.output+"\n", true)}})
		}
	}
}

// checkUnchanged compares what lines output that change nothing.
func checkUnchanged(t *testing.T, c impl.Console, output string, lines ...string) {
	t.Helper()
	for _, line := range lines {
		checkSteps(t, c, []step{{line, output, c}})
	}
}

// The examples of the document.
func TestPromise12Examples(t *testing.T) {
	blocks := consoleOf("x", "011010")
	checkSteps(t, impl.Console{}, []step{{"blocks x 1 2 -1 0,1,1", "-1", blocks}})
	checkUnchanged(t, blocks, "011010", "show x")
	checkSteps(t, blocks, []step{{"flip x 0", "ok", consoleOf("x", "111010")}})
	checkUnchanged(t, consoleOf("x", "111010"), "-1,1,1 0", "data x 1 2 -1")
}

func TestPromise12Set(t *testing.T) {
	two := consoleOf("b", "01", "d", "")
	checkSteps(t, two, []step{
		{"set b 110", "ok", consoleOf("b", "110", "d", "")},
		{"set b none", "ok", consoleOf("b", "", "d", "")},
		{"set d 0", "ok", consoleOf("b", "01", "d", "0")},
		{"set d none", "ok", two},
		{"set b 01", "ok", two},
		{"set a 1", "ok", consoleOf("a", "1", "b", "01", "d", "")},
		{"set c 1", "ok", consoleOf("b", "01", "c", "1", "d", "")},
		{"set e 1", "ok", consoleOf("b", "01", "d", "", "e", "1")},
		{"set bb none", "ok", consoleOf("b", "01", "bb", "", "d", "")},
		{"set none none", "ok", consoleOf("b", "01", "d", "", "none", "")},
		{"set set 000", "ok", consoleOf("b", "01", "d", "", "set", "000")},
		{"set abcdefghij 1", "ok", consoleOf("abcdefghij", "1", "b", "01", "d", "")},
		{"set zzzzzzzzzz " + zeros(400), "ok", consoleOf("b", "01", "d", "", "zzzzzzzzzz", zeros(400))},
		{"set b " + zeros(400), "ok", consoleOf("b", zeros(400), "d", "")},
	})
	checkSteps(t, impl.Console{}, []step{{"set x 0", "ok", consoleOf("x", "0")}, {"set x none", "ok", consoleOf("x", "")}})
	checkUnchanged(t, two, "no", "set c "+zeros(401), "set b "+zeros(401), "set b 2", "set b None", "set b -", "set b 0,1", "set b b", "set B 0", "set b1 0", "set abcdefghijk 0", "set  0", "set c ", "set b ")
}

func TestPromise12Drop(t *testing.T) {
	three := consoleOf("a", "0", "b", "01", "c", "")
	checkSteps(t, three, []step{
		{"drop a", "ok", consoleOf("b", "01", "c", "")},
		{"drop b", "ok", consoleOf("a", "0", "c", "")},
		{"drop c", "ok", consoleOf("a", "0", "b", "01")},
	})
	checkSteps(t, consoleOf("x", "1"), []step{{"drop x", "ok", impl.Console{}}})
	checkUnchanged(t, three, "no", "drop d", "drop aa", "drop A", "drop ", "drop none", "drop 0", "drop abcdefghijk")
	checkUnchanged(t, impl.Console{}, "no", "drop a")
}

func TestPromise12Show(t *testing.T) {
	c := consoleOf("a", "", "b", "0110", "none", "1", "z", zeros(400))
	checkUnchanged(t, c, "none", "show a")
	checkUnchanged(t, c, "0110", "show b")
	checkUnchanged(t, c, "1", "show none")
	checkUnchanged(t, c, zeros(400), "show z")
	checkUnchanged(t, c, "no", "show c", "show ", "show bb", "show B", "show 0110", "show b\n", "show \tb")
}

func TestPromise12Flip(t *testing.T) {
	c := consoleOf("a", "", "b", "0110", "z", zeros(400))
	last := zeros(399) + "1"
	checkSteps(t, c, []step{
		{"flip b 0", "ok", consoleOf("a", "", "b", "1110", "z", zeros(400))},
		{"flip b 1", "ok", consoleOf("a", "", "b", "0010", "z", zeros(400))},
		{"flip b 2", "ok", consoleOf("a", "", "b", "0100", "z", zeros(400))},
		{"flip b 3", "ok", consoleOf("a", "", "b", "0111", "z", zeros(400))},
		{"flip z 399", "ok", consoleOf("a", "", "b", "0110", "z", last)},
	})
	checkUnchanged(t, c, "no", "flip a 0", "flip a -1", "flip a 1", "flip b -1", "flip b 4", "flip b 5", "flip b 1000000000000000", "flip b -1000000000000000",
		"flip z 400", "flip z -1", "flip c 0", "flip b 4294967296", "flip b 4294967297", "flip b 9223372036854775808", "flip b 18446744073709551616")
}

func TestPromise12Blocks(t *testing.T) {
	c := consoleOf("x", "1")
	checkSteps(t, c, []step{
		{"blocks x 1 2 -1 0,1,1", "-1", consoleOf("x", "011010")},
		{"blocks y 1 2 1 0,1,1", "1", consoleOf("x", "1", "y", "011010")},
		{"blocks y 3 4 -1 6", "1", consoleOf("x", "1", "y", "0111")},
		{"blocks y 3 4 1 6", "-1", consoleOf("x", "1", "y", "1000")},
		{"blocks y 3 4 -1 6,6", "-1", consoleOf("x", "1", "y", "01111000")},
		{"blocks a 3 4 1 none", "1", consoleOf("a", "", "x", "1")},
		{"blocks x 3 4 -1 none", "-1", consoleOf("x", "")},
		{"blocks y 1 2 -1 " + strings.Repeat("0,", 63) + "0", "-1", consoleOf("x", "1", "y", strings.Repeat("01", 64))},
		{"blocks y 3 8 1 " + strings.Repeat("0,", 49) + "0", "1", consoleOf("x", "1", "y", strings.Repeat("00001111", 50))},
	})
	checkUnchanged(t, c, "no",
		"blocks x 0 2 -1 0", "blocks x 7 2 -1 0", "blocks x -1 2 -1 0", "blocks x 1 3 -1 0", "blocks x 1 0 -1 0", "blocks x 1 14 -1 0", "blocks x 2 2 -1 none",
		"blocks x 4 4 -1 0", "blocks x 1 2 0 0", "blocks x 1 2 2 0", "blocks x 1 2 -2 0", "blocks x 1 2 -1 2", "blocks x 1 2 -1 -1", "blocks x 1 2 -1 0,2",
		"blocks x 1 2 -1 "+strings.Repeat("0,", 64)+"0", "blocks x 3 8 1 "+strings.Repeat("0,", 50)+"0", "blocks X 1 2 -1 0", "blocks  1 2 -1 0")
}

func TestPromise12Data(t *testing.T) {
	c := consoleOf("a", "", "b", "0110", "c", "01", "d", zeros(130), "e", zeros(128), "z", "011")
	many := strings.Repeat("-1,", 63) + "-1 "
	for i := range 64 {
		many += strings.Repeat(",", min(i, 1)) + fmt.Sprint(i)
	}
	for line, output := range map[string]string{
		"data a 1 2 -1": "none none", "data a 3 4 1": "none none", "data b 1 2 1": "0,1 none", "data c 1 2 -1": "0 none", "data e 1 2 -1": many,
		"data b 3 4 -1": "2 none", "data b 3 4 1": "2 none", "data b 1 4 1": "-1 0",
	} {
		checkUnchanged(t, c, output, line)
	}
	checkUnchanged(t, consoleOf("x", "1000"), "6 0", "data x 3 4 -1")
	checkUnchanged(t, consoleOf("x", "1000"), "6 none", "data x 3 4 1")
	// 65 words have more data than a list.
	checkUnchanged(t, c, "no", "data d 1 2 -1", "data z 1 2 -1", "data b 0 2 -1", "data b 1 3 -1", "data b 2 2 -1", "data b 1 2 0", "data f 1 2 -1", "data  1 2 -1", "data b 1 2 3", "data e 4 4 1")
}

func TestPromise12Layouts(t *testing.T) {
	c := consoleOf("x", "011010", "y", "")
	full := zeros(200) + strings.Repeat("1", 200)
	laid := strings.Repeat(zeros(10)+strings.Repeat("1", 10), 20)
	checkSteps(t, c, []step{
		{"lay x x 2 3", "ok", consoleOf("x", "001110", "y", "")},
		{"lay y x 2 3", "ok", consoleOf("x", "011010", "y", "001110")},
		{"lay a x 1 6", "ok", consoleOf("a", "011010", "x", "011010", "y", "")},
		{"unlay z x 3 2", "ok", consoleOf("x", "011010", "y", "", "z", "001110")},
		{"unlay x x 2 3", "ok", consoleOf("x", "011100", "y", "")},
	})
	checkSteps(t, consoleOf("x", full), []step{{"lay x x 20 20", "ok", consoleOf("x", laid)}, {"unlay y x 20 20", "ok", consoleOf("x", full, "y", laid)}})
	for _, command := range []string{"lay", "unlay"} {
		checkUnchanged(t, c, "no", command+" x x 2 2", command+" x x 3 3", command+" x x 0 6", command+" x x -2 -3", command+" x x 6 0", command+" y y 0 0", command+" y y 1 1",
			command+" x z 2 3", command+" X x 2 3", command+" x X 2 3")
		checkUnchanged(t, consoleOf("x", zeros(21)), "no", command+" x x 1 21", command+" x x 21 1")
	}
}

func TestPromise12Checks(t *testing.T) {
	c := consoleOf("x", "1101", "y", "1101001", "z", "")
	checkSteps(t, c, []step{
		{"check x x 11", "ok", consoleOf("x", "1101001", "y", "1101001", "z", "")},
		{"check w x 11", "ok", consoleOf("w", "1101001", "x", "1101", "y", "1101001", "z", "")},
		{"check z z 11", "ok", consoleOf("x", "1101", "y", "1101001", "z", "000")},
		{"check z x 2", "ok", consoleOf("x", "1101", "y", "1101001", "z", "11010")},
		{"check z x 131071", "ok", consoleOf("x", "1101", "y", "1101001", "z", "11011111111111111001")},
	})
	checkUnchanged(t, c, "yes", "verify y 11", "verify z 11", "verify z 2", "verify z 131071")
	checkUnchanged(t, c, "not", "verify x 11", "verify y 12", "verify x 1", "verify x 0", "verify x -1", "verify z 1", "verify y 131072", "verify z 131072", "verify y 1000000000000000", "verify z -1000000000000000")
	checkUnchanged(t, c, "no", "check x x 1", "check x x 0", "check x x -11", "check x x 131072", "check x v 11", "check X x 11", "verify w 11", "verify y 1000000000000001", "verify y -1000000000000001",
		"verify y 011", "verify y x", "verify  11")
	checkSteps(t, consoleOf("x", zeros(397)), []step{{"check x x 11", "ok", consoleOf("x", zeros(400))}})
	checkUnchanged(t, consoleOf("x", zeros(398)), "no", "check x x 11", "check y x 11")
	checkUnchanged(t, consoleOf("x", zeros(400)), "no", "check x x 2", "check x x 3")
	checkUnchanged(t, consoleOf("x", zeros(400)), "yes", "verify x 2", "verify x 3")
}

func TestPromise12Votes(t *testing.T) {
	c := consoleOf("x", "01", "y", "010110", "z", "")
	checkSteps(t, c, []step{
		{"repeat x x 3", "ok", consoleOf("x", "000111", "y", "010110", "z", "")},
		{"repeat w x 1", "ok", consoleOf("w", "01", "x", "01", "y", "010110", "z", "")},
		{"repeat y z 15", "ok", consoleOf("x", "01", "y", "", "z", "")},
		{"vote y y 3", "ok", consoleOf("x", "01", "y", "01", "z", "")},
		{"vote x y 1", "ok", consoleOf("x", "010110", "y", "010110", "z", "")},
		{"vote v z 15", "ok", consoleOf("v", "", "x", "01", "y", "010110", "z", "")},
	})
	for _, command := range []string{"repeat", "vote"} {
		checkUnchanged(t, c, "no", command+" x x 0", command+" x x 2", command+" x x -1", command+" x x -3", command+" x x 16", command+" x x 17", command+" z z 2", command+" z z 17",
			command+" x w 3", command+" X y 3")
	}
	checkUnchanged(t, c, "no", "vote x x 3", "vote y y 5")
	checkSteps(t, consoleOf("x", zeros(80)), []step{{"repeat x x 5", "ok", consoleOf("x", zeros(400))}})
	checkSteps(t, consoleOf("x", zeros(400)), []step{{"repeat x x 1", "ok", consoleOf("x", zeros(400))}, {"vote x x 5", "ok", consoleOf("x", zeros(80))}})
	checkUnchanged(t, consoleOf("x", zeros(81)), "no", "repeat x x 5", "repeat y x 5")
	checkUnchanged(t, consoleOf("x", zeros(134)), "no", "repeat x x 3")
}

func TestPromise12Clocks(t *testing.T) {
	c := consoleOf("x", "00110", "y", "")
	checkSteps(t, c, []step{
		{"clock x x 10 10", "ok", c},
		{"clock y x 10 10", "ok", consoleOf("x", "00110", "y", "00110")},
		{"clock w x 10 5", "ok", consoleOf("w", "0000111100", "x", "00110", "y", "")},
		{"clock x y 2 1000", "ok", consoleOf("x", "", "y", "")},
		{"clock x x 2 1000", "ok", consoleOf("x", "", "y", "")},
	})
	checkUnchanged(t, c, "no", "clock x x 1 10", "clock x x 10 1", "clock x x 1001 10", "clock x x 10 1001", "clock x x 0 10", "clock x x -10 10", "clock x x 10 -10", "clock y y 1 10",
		"clock x w 10 10", "clock X x 10 10")
	// What is received of few bits can be more than a console has in a line.
	two := consoleOf("x", "00")
	checkSteps(t, two, []step{{"clock x x 400 2", "ok", consoleOf("x", zeros(400))}, {"clock y x 399 2", "ok", consoleOf("x", "00", "y", zeros(399))}})
	checkUnchanged(t, two, "no", "clock x x 401 2", "clock y x 401 2", "clock x x 1000 2")
	checkSteps(t, consoleOf("x", zeros(100)), []step{{"clock x x 10 10", "ok", consoleOf("x", zeros(100))}})
	checkUnchanged(t, consoleOf("x", zeros(101)), "no", "clock x x 10 10", "clock y x 10 20")
	checkUnchanged(t, consoleOf("x", zeros(100)), "no", "clock x x 1000 2")
}

// Six lines are the most: a line that is there can get other bits, and a new one has no room, by each command that gives bits to a name.
func TestPromise12FullConsoles(t *testing.T) {
	c := fullConsole()
	for line, bits := range map[string]string{
		"set NEW 00": "00", "set NEW none": "", "blocks NEW 1 2 -1 0,1": "0110", "lay NEW h 2 3": "001110", "unlay NEW h 3 2": "001110", "check NEW d 11": "0110001",
		"repeat NEW l 3": "111000", "vote NEW d 1": "0110", "clock NEW l 10 10": "10",
	} {
		for i, name := range c.Names {
			after := fullConsole()
			after.Lines[i] = bits
			output := "ok"
			if strings.HasPrefix(line, "blocks") {
				output = "-1"
			}
			checkSteps(t, c, []step{{strings.Replace(line, "NEW", name, 1), output, after}})
		}
		for _, name := range []string{"a", "c", "e", "g", "i", "k", "m", "bb", "none", "abcdefghij"} {
			checkUnchanged(t, c, "no", strings.Replace(line, "NEW", name, 1))
		}
		// With one line less, there is room for each new one.
		fewer, _, _ := impl.ConsoleCommand(c, "drop f")
		for _, name := range []string{"a", "c", "f", "g", "m"} {
			m := modelOf(fewer)
			m[name] = bits
			got, _, _ := impl.ConsoleCommand(fewer, strings.Replace(line, "NEW", name, 1))
			expect(t, []row{{line + " " + name, fmt.Sprintf("%q", got), fmt.Sprintf("%q", m.console())}})
		}
	}
}

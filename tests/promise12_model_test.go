package tests

import (
	"maps"
	"math/big"
	"regexp"
	"slices"
	"strings"

	"loop.example/g01142/impl"
)

// consoleModel is a console as the document tells of it: bits by names.
type consoleModel map[string]string

var (
	nameForm   = regexp.MustCompile(`\A[a-z]{1,10}\z`)
	bitsForm   = regexp.MustCompile(`\A[01]{0,400}\z`)
	numberForm = regexp.MustCompile(`\A(0|-?[1-9][0-9]*)\z`)
	// The forms of the document, of which each line has one or none.
	consoleForms = strings.Split("set NEW BITS;drop NAME;show NAME;flip NAME N;blocks NEW D W S LIST;data NAME D W S;"+
		"lay NEW NAME R C;unlay NEW NAME R C;check NEW NAME P;verify NAME P;repeat NEW NAME N;vote NEW NAME N;clock NEW NAME N M", ";")
)

func modelOf(c impl.Console) consoleModel {
	m := consoleModel{}
	for i, name := range c.Names {
		m[name] = c.Lines[i]
	}
	return m
}

func (m consoleModel) console() impl.Console {
	var c impl.Console
	for _, name := range slices.Sorted(maps.Keys(m)) {
		c.Names = append(c.Names, name)
		c.Lines = append(c.Lines, m[name])
	}
	return c
}

// wordsByPlace returns the words of a line by the places of its form, and its first word, if it has a form.
func wordsByPlace(line string) (map[string]string, string, bool) {
	words := strings.Split(line, " ")
	for _, form := range consoleForms {
		places := strings.Split(form, " ")
		if places[0] != words[0] || len(places) != len(words) {
			continue
		}
		byPlace := map[string]string{}
		for i, place := range places[1:] {
			byPlace[place] = words[i+1]
		}
		return byPlace, words[0], true
	}
	return nil, "", false
}

// modelNumber returns the number with a decimal text, if it is within the limits.
func modelNumber(text string) (int64, bool) {
	n, ok := new(big.Int).SetString(text, 10)
	if !ok || !numberForm.MatchString(text) || new(big.Int).Abs(n).Cmp(big.NewInt(1000000000000000)) > 0 {
		return 0, false
	}
	return n.Int64(), true
}

// modelList returns the list with a text.
func modelList(text string) ([]int64, bool) {
	var list []int64
	if text == "none" {
		return nil, true
	}
	for _, word := range strings.Split(text, ",") {
		n, ok := modelNumber(word)
		if !ok {
			return nil, false
		}
		list = append(list, n)
	}
	return list, len(list) <= 64
}

// answer changes m by a line, and returns the output.
func (m consoleModel) answer(line string) string {
	words, command, ok := wordsByPlace(line)
	if !ok {
		return "what"
	}
	bits, isThere := m[words["NAME"]]
	if _, isNamed := words["NAME"]; isNamed && !isThere {
		return "no"
	}
	numbers := map[string]int64{}
	for place, word := range words {
		n, isNumber := modelNumber(word)
		if len(place) == 1 && !isNumber {
			return "no"
		}
		numbers[place] = n
	}
	output, behind, ok := modelOutput(command, words, numbers, bits)
	if !ok || !bitsForm.MatchString(behind) {
		return "no"
	}
	if command == "drop" {
		delete(m, words["NAME"])
	}
	if name, isNew := words["NEW"]; isNew {
		if _, isOld := m[name]; !isOld && (len(m) == 6 || !nameForm.MatchString(name)) {
			return "no"
		}
		m[name] = behind
	}
	if command == "flip" {
		m[words["NAME"]] = behind
	}
	return output
}

// modelOutput returns what a command outputs, and the bits that it makes of others, if it can be carried out.
func modelOutput(command string, words map[string]string, numbers map[string]int64, bits string) (string, string, bool) {
	var behind string
	var ok bool
	switch command {
	case "set":
		behind, ok = words["BITS"], words["BITS"] != ""
		if behind == "none" {
			behind = ""
		}
	case "drop":
		ok = true
	case "show":
		if bits == "" {
			return "none", "", true
		}
		return bits, "", true
	case "flip":
		if at := numbers["N"]; at >= 0 && at < int64(len(bits)) {
			behind, ok = withChange(bits, int(at)), true
		}
	case "blocks", "data":
		return modelBlocks(command, words["LIST"], numbers, bits)
	case "lay":
		behind, ok = impl.BlockInterleave(numbers["R"], numbers["C"], bits)
	case "unlay":
		behind, ok = impl.BlockDeinterleave(numbers["R"], numbers["C"], bits)
	case "check":
		behind, ok = impl.AddCheck(numbers["P"], bits)
	case "verify":
		if impl.HasCheck(numbers["P"], bits) {
			return "yes", "", true
		}
		return "not", "", true
	case "repeat":
		behind, ok = impl.RepeatBits(bits, numbers["N"])
	case "vote":
		behind, ok = impl.VoteBits(bits, numbers["N"])
	case "clock":
		behind, ok = impl.ReceiveBits(bits, numbers["N"], numbers["M"], noJitter(bits))
	}
	return "ok", behind, ok
}

// modelBlocks is modelOutput for the commands with a block code.
func modelBlocks(command, text string, numbers map[string]int64, bits string) (string, string, bool) {
	code, ok := impl.MakeBlockCode(numbers["D"], numbers["W"])
	if !ok {
		return "", "", false
	}
	if command == "blocks" {
		list, isList := modelList(text)
		behind, state, ok := impl.EncodeBlocks(code, numbers["S"], list)
		return show(state), behind, ok && isList
	}
	data, wrong, _, ok := impl.DecodeBlocks(code, numbers["S"], bits)
	if len(data) > 64 {
		return "", "", false
	}
	return modelListText(data) + " " + modelListText(wrong), "", ok
}

// modelListText returns the text of a list.
func modelListText(list []int64) string {
	if len(list) == 0 {
		return "none"
	}
	return strings.ReplaceAll(strings.Trim(show(list), "[]"), " ", ",")
}

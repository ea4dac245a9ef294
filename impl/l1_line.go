// Package impl: workflows, from texts to steps.
package impl

import (
	"slices"
	"strconv"
	"strings"
)

// Limits of workflows.
const (
	FlowMaxText  = 4000
	FlowMaxLines = 60
	FlowMaxName  = 8
	FlowMaxNum   = 9999
	FlowMaxArgs  = 3
	FlowMaxDeep  = 5
)

// Kinds of lines.
const (
	FlowHead   = 1
	FlowLet    = 2
	FlowDo     = 3
	FlowSleep  = 4
	FlowGet    = 5
	FlowIf     = 6
	FlowElse   = 7
	FlowWhile  = 8
	FlowBoth   = 9
	FlowAnd    = 10
	FlowEnd    = 11
	FlowReturn = 12
	FlowFail   = 13
	FlowPatch  = 14
	FlowNext   = 15
)

// FlowLine is a line of a workflow.
type FlowLine struct {
	Kind int
	To   string
	Name string
	Args []string
	Undo string
}

// FlowFault is what is wrong, and in which line, from 1 on.
type FlowFault struct {
	Line int
	Code int
}

// FlowParse reads a workflow.
func FlowParse(text string) ([]FlowLine, FlowFault) {
	lines, places, err := readText(text)
	if err != nil {
		return nil, faultOf(err)
	}
	fault := FlowCheck(lines)
	if fault.Code == 0 {
		return lines, fault
	}
	if fault.Line > 0 {
		fault.Line = places[fault.Line-1]
	}
	return nil, fault
}

// FlowPrint writes a workflow.
func FlowPrint(lines []FlowLine) string {
	if FlowCheck(lines).Code != 0 {
		return ""
	}
	var text strings.Builder
	for _, line := range lines {
		text.WriteString(writeLine(line))
		text.WriteByte('\n')
	}
	return text.String()
}

// readText also tells where in the text each line stands, as blank ones are left out.
func readText(text string) ([]FlowLine, []int, error) {
	if len(text) > FlowMaxText {
		return nil, nil, faultAt(0, FlowTooLong)
	}
	var lines []FlowLine
	var places []int
	for i, row := range strings.Split(text, "\n") {
		words := wordsOf(row)
		if len(words) == 0 {
			continue
		}
		line, ok := readWords(words)
		if !ok {
			return nil, nil, faultAt(i+1, FlowBadLine)
		}
		if len(lines) == FlowMaxLines {
			return nil, nil, faultAt(i+1, FlowTooLong)
		}
		lines = append(lines, line)
		places = append(places, i+1)
	}
	return lines, places, nil
}

// wordsOf builds each word anew, so that a line keeps no piece of the text it was read from.
// A byte that is no UTF-8 becomes another rune, but is part of no right word either way.
func wordsOf(row string) []string {
	var words []string
	var word strings.Builder
	for _, r := range row {
		if r != ' ' {
			word.WriteRune(r)
			continue
		}
		if word.Len() > 0 {
			words = append(words, word.String())
			word.Reset()
		}
	}
	if word.Len() > 0 {
		words = append(words, word.String())
	}
	return words
}

// lineForm is how the words behind a line's first word are read and written.
type lineForm struct {
	word  string
	read  func(words []string) (FlowLine, bool)
	words func(line FlowLine) []string
}

// lineForms stand in the order of their kinds: a kind is its form's place and one.
func lineForms() [FlowNext]lineForm {
	return [FlowNext]lineForm{
		{"workflow", readHead, headWords},
		{"let", readLet, letWords},
		{"do", readDo, doWords},
		{"sleep", readOne, argWords},
		{"get", readGet, getWords},
		{"if", readTest, testWords},
		{"else", readBare, bareWords},
		{"while", readTest, testWords},
		{"both", readBare, bareWords},
		{"and", readBare, bareWords},
		{"end", readBare, bareWords},
		{"return", readOne, argWords},
		{"fail", readOne, argWords},
		{"patch", readPatch, patchWords},
		{"next", readNext, argWords},
	}
}

func readWords(words []string) (FlowLine, bool) {
	for place, form := range lineForms() {
		if len(words) > 0 && words[0] == form.word {
			line, ok := form.read(words[1:])
			line.Kind = place + 1
			return line, ok
		}
	}
	return FlowLine{}, false
}

// writeLine takes lines that are wrong, too, as reading them again tells that they are.
func writeLine(line FlowLine) string {
	if line.Kind < FlowHead || line.Kind > FlowNext {
		return ""
	}
	form := lineForms()[line.Kind-1]
	words := append([]string{form.word}, form.words(line)...)
	return strings.Join(words, " ")
}

// readsAsWritten is the whole of what makes a single line right.
func readsAsWritten(line FlowLine) bool {
	read, ok := readWords(wordsOf(writeLine(line)))
	return ok && sameLine(read, line)
}

func sameLine(a FlowLine, b FlowLine) bool {
	return a.Kind == b.Kind && a.To == b.To && a.Name == b.Name && slices.Equal(a.Args, b.Args) && a.Undo == b.Undo
}

func readHead(words []string) (FlowLine, bool) {
	if len(words) < 1 || len(words) > 1+FlowMaxArgs || !allNames(words) {
		return FlowLine{}, false
	}
	args := words[1:]
	for i, arg := range args {
		if slices.Contains(args[:i], arg) {
			return FlowLine{}, false
		}
	}
	return FlowLine{Name: words[0], Args: listOf(args)}, true
}

func headWords(line FlowLine) []string {
	return append([]string{line.Name}, line.Args...)
}

func readLet(words []string) (FlowLine, bool) {
	if len(words) < 2 || !isName(words[0]) {
		return FlowLine{}, false
	}
	args, ok := readOperands(words[2:], letOperands(words[1]), letOperands(words[1]))
	return FlowLine{To: words[0], Name: words[1], Args: args}, ok
}

// letOperands is -1 for a word that no let has, as no list has so few.
func letOperands(word string) int {
	switch word {
	case "is":
		return 1
	case "add", "sub", "mul":
		return 2
	}
	return -1
}

func letWords(line FlowLine) []string {
	return append([]string{line.To, line.Name}, line.Args...)
}

func readDo(words []string) (FlowLine, bool) {
	undo := ""
	if last := len(words) - 1; last >= 3 && words[last-1] == "undo" {
		undo = words[last]
		words = words[:last-1]
		if !isName(undo) {
			return FlowLine{}, false
		}
	}
	if len(words) < 2 || !allNames(words[:2]) {
		return FlowLine{}, false
	}
	args, ok := readOperands(words[2:], 0, FlowMaxArgs)
	return FlowLine{To: words[0], Name: words[1], Args: args, Undo: undo}, ok
}

func doWords(line FlowLine) []string {
	words := append([]string{line.To, line.Name}, line.Args...)
	if line.Undo != "" {
		words = append(words, "undo", line.Undo)
	}
	return words
}

func readGet(words []string) (FlowLine, bool) {
	if len(words) < 2 || !allNames(words[:2]) {
		return FlowLine{}, false
	}
	line := FlowLine{To: words[0], Name: words[1]}
	if len(words) == 2 {
		return line, true
	}
	args, ok := readOperands(words[3:], 1, 1)
	line.Args = args
	return line, ok && words[2] == "for"
}

func getWords(line FlowLine) []string {
	words := []string{line.To, line.Name}
	if len(line.Args) > 0 {
		words = append(words, "for")
	}
	return append(words, line.Args...)
}

func readTest(words []string) (FlowLine, bool) {
	if len(words) != 3 || !isTest(words[1]) {
		return FlowLine{}, false
	}
	args, ok := readOperands([]string{words[0], words[2]}, 2, 2)
	return FlowLine{Name: words[1], Args: args}, ok
}

func isTest(word string) bool {
	switch word {
	case "less", "same", "more", "other":
		return true
	}
	return false
}

// testWords has no place for other than two operands: without any words the line is read as wrong.
func testWords(line FlowLine) []string {
	if len(line.Args) != 2 {
		return nil
	}
	return []string{line.Args[0], line.Name, line.Args[1]}
}

func readBare(words []string) (FlowLine, bool) {
	return FlowLine{}, len(words) == 0
}

func bareWords(line FlowLine) []string {
	return nil
}

func readPatch(words []string) (FlowLine, bool) {
	if len(words) != 1 || !isName(words[0]) {
		return FlowLine{}, false
	}
	return FlowLine{Name: words[0]}, true
}

func patchWords(line FlowLine) []string {
	return []string{line.Name}
}

func readOne(words []string) (FlowLine, bool) {
	args, ok := readOperands(words, 1, 1)
	return FlowLine{Args: args}, ok
}

func readNext(words []string) (FlowLine, bool) {
	args, ok := readOperands(words, 0, FlowMaxArgs)
	return FlowLine{Args: args}, ok
}

func argWords(line FlowLine) []string {
	return line.Args
}

func readOperands(words []string, least int, most int) ([]string, bool) {
	if len(words) < least || len(words) > most {
		return nil, false
	}
	for _, word := range words {
		if !isName(word) && !isNumber(word) {
			return nil, false
		}
	}
	return listOf(words), true
}

// listOf keeps the list of a line apart from the words that it was read from.
func listOf(words []string) []string {
	return append([]string(nil), words...)
}

func allNames(words []string) bool {
	for _, word := range words {
		if !isName(word) {
			return false
		}
	}
	return true
}

func isName(word string) bool {
	if len(word) < 1 || len(word) > FlowMaxName {
		return false
	}
	for place, r := range word {
		letter := 'a' <= r && r <= 'z'
		digit := '0' <= r && r <= '9'
		if !letter && (place == 0 || !digit) {
			return false
		}
	}
	return true
}

// isNumber holds a word against its number as that is written, which leaves just one word for each.
func isNumber(word string) bool {
	num, err := strconv.Atoi(word)
	return err == nil && -FlowMaxNum <= num && num <= FlowMaxNum && strconv.Itoa(num) == word
}

package tests

import (
	"strings"
	"testing"

	"loop.example/dunlin/impl"
)

// Promise 2: each kind of line is read into its parts, written, and read again.
func TestEachKindThereAndBack(t *testing.T) {
	text := rows("workflow w n m", "let a is n", "let b add a 1", "let b sub b -1", "let b mul b m", "do c pay", "do c pay a -9999 9999 undo back",
		"sleep a", "get d go", "get d go for 30", "if a less b", "let e is 1", "else", "let e is 2", "end", "while e same d", "sleep 1", "end",
		"both", "get f stop", "and", "do g mail e", "end", "patch quick", "fail 7", "end", "if 1 more 2", "next", "end", "if 1 other 2", "next a b 3", "end", "return g") + "\n"
	want := []impl.FlowLine{
		{Kind: 1, Name: "w", Args: []string{"n", "m"}},
		{Kind: 2, To: "a", Name: "is", Args: []string{"n"}},
		{Kind: 2, To: "b", Name: "add", Args: []string{"a", "1"}},
		{Kind: 2, To: "b", Name: "sub", Args: []string{"b", "-1"}},
		{Kind: 2, To: "b", Name: "mul", Args: []string{"b", "m"}},
		{Kind: 3, To: "c", Name: "pay"},
		{Kind: 3, To: "c", Name: "pay", Args: []string{"a", "-9999", "9999"}, Undo: "back"},
		{Kind: 4, Args: []string{"a"}},
		{Kind: 5, To: "d", Name: "go"},
		{Kind: 5, To: "d", Name: "go", Args: []string{"30"}},
		{Kind: 6, Name: "less", Args: []string{"a", "b"}},
		{Kind: 2, To: "e", Name: "is", Args: []string{"1"}},
		{Kind: 7},
		{Kind: 2, To: "e", Name: "is", Args: []string{"2"}},
		{Kind: 11},
		{Kind: 8, Name: "same", Args: []string{"e", "d"}},
		{Kind: 4, Args: []string{"1"}},
		{Kind: 11},
		{Kind: 9},
		{Kind: 5, To: "f", Name: "stop"},
		{Kind: 10},
		{Kind: 3, To: "g", Name: "mail", Args: []string{"e"}},
		{Kind: 11},
		{Kind: 14, Name: "quick"},
		{Kind: 13, Args: []string{"7"}},
		{Kind: 11},
		{Kind: 6, Name: "more", Args: []string{"1", "2"}},
		{Kind: 15},
		{Kind: 11},
		{Kind: 6, Name: "other", Args: []string{"1", "2"}},
		{Kind: 15, Args: []string{"a", "b", "3"}},
		{Kind: 11},
		{Kind: 12, Args: []string{"g"}},
	}
	lines := taken(t, text)
	if !same(lines, want) {
		t.Errorf("read as %v", lines)
	}
	if got := impl.FlowPrint(want); got != text {
		t.Errorf("written as %q", got)
	}
}

// The document's example, indented as it stands there.
func TestTrip(t *testing.T) {
	text := rows("    workflow trip n", "    do car book n undo unbook", "    both", "      do hotel book n undo unbook", "      get ok go for 30", "    and", "      patch quick",
		"        do mail send n", "      else", "        sleep 5", "        do mail send n", "      end", "    end", "    if ok less 0", "      fail 7", "    end",
		"    let i is 0", "    while i less n", "      do x work i", "      let i add i 1", "    end", "    return hotel") + "\n"
	lines := taken(t, text)
	if got := impl.FlowPrint(lines); len(lines) != 22 || got != strings.ReplaceAll(strings.ReplaceAll(text, "\n  ", "\n"), "  ", "") {
		t.Errorf("%q", got)
	}
}

func TestBlankLinesAndSpaces(t *testing.T) {
	plain := rows("workflow w n", "do a pay n 1 undo back", "if a less 3", "fail a", "end", "return a") + "\n"
	want := taken(t, plain)
	for _, text := range []string{
		strings.TrimSuffix(plain, "\n"),
		"\n\n" + plain + "\n   \n",
		"   " + strings.ReplaceAll(plain, "\n", "   \n  "),
		strings.ReplaceAll(plain, " ", "    "),
		strings.ReplaceAll(plain, "\n", "\n \n\n"),
	} {
		if lines := taken(t, text); !same(lines, want) || impl.FlowPrint(lines) != plain {
			t.Errorf("%q: %v", text, lines)
		}
	}
	for _, text := range []string{"workflow\tw\nreturn 1", "workflow w\r\nreturn 1", "\t\nworkflow w\nreturn 1", "workflow\u00a0w\nreturn 1", "workflow w\vreturn 1", "\x00"} {
		refused(t, text, 1, impl.FlowBadLine)
	}
	refused(t, "", 0, impl.FlowUneven)
	refused(t, " \n\n  ", 0, impl.FlowUneven)
}

// Words that lines are made of are names as well as any other.
func TestWordsAsNames(t *testing.T) {
	lines := taken(t, rows("workflow workflow undo for is", "let is is is", "let add add undo for", "do do do undo", "get for for", "get for for for for",
		"do undo undo undo undo undo", "let end is 1", "patch else", "sleep end", "end", "return end"))
	if len(lines) != 12 || lines[4].Args != nil || lines[5].Args[0] != "for" || lines[6].Undo != "undo" || len(lines[6].Args) != 1 {
		t.Error(lines)
	}
	if lines := taken(t, "workflow w w\nreturn w"); len(lines) != 2 || lines[0].Name != "w" || lines[0].Args[0] != "w" {
		t.Error(lines)
	}
}

func TestWordUndo(t *testing.T) {
	for _, c := range []struct {
		row  string
		args string
		undo string
	}{
		{"do a b undo", "undo", ""},
		{"do a undo", "", ""},
		{"do a undo n", "n", ""},
		{"do undo b n", "n", ""},
		{"do a b undo c", "", "c"},
		{"do a undo undo c", "", "c"},
		{"do a b undo undo", "", "undo"},
		{"do a b n undo", "n undo", ""},
		{"do a b undo n undo", "undo n undo", ""},
		{"do a b undo n n", "undo n n", ""},
		{"do a b undo undo c", "undo", "c"},
		{"do a b n undo c", "n", "c"},
		{"do a b 1 2 undo", "1 2 undo", ""},
		{"do a b 1 2 3 undo c", "1 2 3", "c"},
		{"do a b undo undo undo undo c", "undo undo undo", "c"},
	} {
		text := rows("workflow w undo n", c.row, "return 1")
		lines := taken(t, text)
		if len(lines) != 3 || strings.Join(lines[1].Args, " ") != c.args || lines[1].Undo != c.undo {
			t.Errorf("%q: %v", c.row, lines)
		}
	}
	for _, row := range []string{"do a b undo 5", "do a b n undo -1", "do a b undo C", "do a b 1 2 3 undo", "do a b undo 1 undo 2", "do a b undo c undo 1 2", "do a b 1 2 3 4 undo c", "do a b undo undo undo undo undo c"} {
		refused(t, rows("workflow w undo n c", row, "return 1"), 2, impl.FlowBadLine)
	}
}

func TestBadRows(t *testing.T) {
	for _, row := range []string{
		"flow w", "Let a is 1", "let", "let a", "let a is", "let a is 1 2", "let a add 1", "let a add 1 2 3", "let a div", "let a b", "let a div 1", "let a div 1 2", "let 1 is 1", "let a Is 1", "let a is A", "let a is b_c", "let a is \xff", "let a is é",
		"do", "do a", "do 1 b", "do a 1", "do a b A", "do a b 1 2 3 4",
		"sleep", "sleep 1 2", "sleep +1", "sleep -", "sleep --1", "sleep 1.0", "sleep 1_0", "sleep 0x1",
		"get", "get a", "get a 1", "get 1 b", "get a b for", "get a b 1", "get a b of 1", "get a b for 1 2", "get a b for A",
		"if", "if a", "if 1 less", "if 1 less 2 3", "if 1 lesser 2", "if less 1 2", "if 1 less A", "if A less 1", "while 1 less", "while 1 is 2", "while 1 other 2 3",
		"else 1", "both 1", "and a", "end end", "endif", "else if 1 less 2",
		"return", "return 1 2", "return A", "fail", "fail 1 2", "patch", "patch 1", "patch a b", "next 1 2 3 4", "next A",
		"workflow", "workflow 1", "workflow w 1", "workflow w a a", "workflow w a b a", "workflow w a b c d", "workflow W",
	} {
		refused(t, rows("workflow w", "sleep 1", row, "return 1"), 3, impl.FlowBadLine)
		// Of several bad lines the first.
		refused(t, rows("workflow w", "sleep 1", row, "", "nonsense"), 3, impl.FlowBadLine)
	}
	for _, row := range []string{"workflow", "workflow 1", "workflow w a b c d", "workflow w a b b", "workflow w 9"} {
		refused(t, rows("", row, "return 1"), 2, impl.FlowBadLine)
		refused(t, rows("", row, "nonsense"), 2, impl.FlowBadLine)
	}
}

func TestNamesAndNumbersAtTheirLimits(t *testing.T) {
	for _, name := range []string{"a", "z", "a0", "z9", "abcdefgh", "a1234567"} {
		taken(t, rows("workflow "+name+" "+name+" b", "do "+name+" "+name+" "+name+" undo "+name, "get "+name+" "+name+" for "+name, "patch "+name, "end", "let "+name+" is b", "return "+name))
	}
	for _, name := range []string{"abcdefghi", "a12345678", "0", "0a", "A", "a-b", "`", "{", "a/", "a:", "-", "_a", "a\xffb", "\u00e4"} {
		for _, row := range []string{"let " + name + " is 1", "do " + name + " b", "do a " + name, "do a b undo " + name, "get " + name + " b", "get a " + name, "patch " + name} {
			refused(t, rows("workflow w", row, "return 1"), 2, impl.FlowBadLine)
		}
		refused(t, rows("workflow "+name, "return 1"), 1, impl.FlowBadLine)
		refused(t, rows("workflow w "+name, "return 1"), 1, impl.FlowBadLine)
	}
	for _, num := range []string{"0", "1", "-1", "9", "10", "-10", "9999", "-9999", "1000", "-9000"} {
		taken(t, rows("workflow w", "let a is "+num, "do a b "+num, "get a b for "+num, "if "+num+" less "+num, "fail "+num, "end", "sleep "+num, "return "+num))
	}
	for _, num := range []string{"10000", "-10000", "00", "-0", "01", "-01", "+1", "99999999999999999999", "-99999999999999999999", "1a", "9_9", "", "-", "1e3", "٣"} {
		for _, row := range []string{"let a is " + num, "if 1 less " + num, "sleep " + num, "return " + num, "fail " + num} {
			refused(t, rows("workflow w", row, "return 1"), 2, impl.FlowBadLine)
		}
	}
}

func TestArgsAtTheirLimit(t *testing.T) {
	taken(t, rows("workflow w a b c", "do d e a b c", "do d e a b c undo f", "next a b c"))
	refused(t, rows("workflow w a b c d", "next"), 1, impl.FlowBadLine)
	refused(t, rows("workflow w a b c", "do d e a b c a", "next"), 2, impl.FlowBadLine)
	refused(t, rows("workflow w a b c", "do d e a b c a undo f", "next"), 2, impl.FlowBadLine)
	refused(t, rows("workflow w a b c", "next a b c a"), 2, impl.FlowBadLine)
}

func TestTextAtItsLimit(t *testing.T) {
	text := rows("workflow w", "return 1")
	for _, pad := range []string{" ", "\n"} {
		full := text + strings.Repeat(pad, impl.FlowMaxText-len(text))
		if len(full) != 4000 {
			t.Fatal(len(full))
		}
		if lines := taken(t, full); len(lines) != 2 {
			t.Error(lines)
		}
		refused(t, full+pad, 0, impl.FlowTooLong)
		refused(t, pad+full, 0, impl.FlowTooLong)
	}
	refused(t, strings.Repeat("x", impl.FlowMaxText), 1, impl.FlowBadLine)
	refused(t, strings.Repeat("x", impl.FlowMaxText+1), 0, impl.FlowTooLong)
	// The size counts bytes, not runes.
	refused(t, strings.Repeat("é", impl.FlowMaxText/2), 1, impl.FlowBadLine)
	refused(t, strings.Repeat("é", impl.FlowMaxText/2)+"x", 0, impl.FlowTooLong)
}

func TestLinesAtTheirLimit(t *testing.T) {
	full := "workflow w\n" + strings.Repeat("sleep 1\n", impl.FlowMaxLines-2) + "return 1\n"
	if lines := taken(t, full); len(lines) != 60 {
		t.Error(len(lines))
	}
	if lines := taken(t, strings.ReplaceAll(full, "\n", "\n \n")); len(lines) != 60 {
		t.Error(len(lines))
	}
	refused(t, full+"sleep 1", 61, impl.FlowTooLong)
	refused(t, full+"\n\n  sleep 1\nsleep 1", 63, impl.FlowTooLong)
	// Line by line: a bad line counts where it stands, and ahead of one too many at the same line.
	refused(t, full+"nonsense", 61, impl.FlowBadLine)
	refused(t, full+"sleep 1\nnonsense", 61, impl.FlowTooLong)
	refused(t, strings.Replace(full, "sleep", "sloop", 1)+"sleep 1", 2, impl.FlowBadLine)
	// What FlowCheck finds comes behind both.
	refused(t, strings.Repeat("sleep 1\n", 61), 61, impl.FlowTooLong)
	refused(t, strings.Repeat("sleep 1\n", 60), 1, impl.FlowUneven)
	refused(t, "sleep 1\nnonsense", 2, impl.FlowBadLine)

	lines := linesOf(t, full)
	if f := impl.FlowCheck(lines); f != (impl.FlowFault{}) {
		t.Error(f)
	}
	more := append(deepCopy(lines), impl.FlowLine{Kind: 99})
	if f := impl.FlowCheck(more); f != (impl.FlowFault{Line: 0, Code: impl.FlowTooLong}) || impl.FlowPrint(more) != "" {
		t.Error(f)
	}
	if f := impl.FlowCheck(make([]impl.FlowLine, 61)); f != (impl.FlowFault{Line: 0, Code: impl.FlowTooLong}) {
		t.Error(f)
	}
}

// Promise 3: the longest text of a right workflow is not too long to be read.
func TestLongestWorkflow(t *testing.T) {
	text := "workflow abcdefgh bcdefghi cdefghij defghijk\n" + strings.Repeat("do abcdefgh bcdefghi bcdefghi cdefghij defghijk undo efghijkl\n", 58) + "next bcdefghi cdefghij defghijk\n"
	if got := impl.FlowPrint(linesOf(t, text)); got != text {
		t.Errorf("%q", got)
	}
	taken(t, text)
}

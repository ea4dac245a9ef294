package tests

import (
	"strings"
	"testing"

	"loop.example/dunlin/impl"
)

// faultCase is a text without blank lines, and its fault.
type faultCase struct {
	text string
	line int
	code int
}

// told asks each case of FlowParse, of FlowParse with blank lines between, and of FlowCheck.
func told(t *testing.T, cases []faultCase) {
	t.Helper()
	for _, c := range cases {
		if c.code == 0 {
			taken(t, c.text)
		} else {
			refused(t, c.text, c.line, c.code)
			refused(t, "\n"+strings.ReplaceAll(c.text, "\n", "\n  \n"), 2*c.line, c.code)
		}
		lines := linesOf(t, c.text)
		if f := impl.FlowCheck(lines); f != (impl.FlowFault{Line: c.line, Code: c.code}) {
			t.Errorf("check of %q: %+v, asked for line %d, code %d", c.text, f, c.line, c.code)
		}
		if (impl.FlowPrint(lines) == "") != (c.code != 0) {
			t.Errorf("print of %q: %q", c.text, impl.FlowPrint(lines))
		}
	}
}

// Promise 4, FlowUneven by how lines stand.
func TestUneven(t *testing.T) {
	told(t, []faultCase{
		{"", 0, impl.FlowUneven},
		{"return 1", 1, impl.FlowUneven},
		{"end", 1, impl.FlowUneven},
		{"if 1 less 2\nworkflow w", 1, impl.FlowUneven},
		{"workflow w\nworkflow w\nreturn 1", 2, impl.FlowUneven},
		{"workflow w\nreturn 1\nworkflow w", 3, impl.FlowUneven},
		{"workflow w\nelse\nreturn 1", 2, impl.FlowUneven},
		{"workflow w\nif 1 less 2\nelse\nelse\nend\nreturn 1", 4, impl.FlowUneven},
		{"workflow w\npatch p\nelse\nelse\nend\nreturn 1", 4, impl.FlowUneven},
		{"workflow w\nwhile 1 less 2\nelse\nend\nreturn 1", 3, impl.FlowUneven},
		{"workflow w\nboth\nelse\nend\nreturn 1", 3, impl.FlowUneven},
		{"workflow w\nif 1 less 2\nwhile 1 less 2\nelse\nend\nend\nreturn 1", 4, impl.FlowUneven},
		{"workflow w\nif 1 less 2\nend\nelse\nend\nreturn 1", 4, impl.FlowUneven},
		{"workflow w\nand\nreturn 1", 2, impl.FlowUneven},
		{"workflow w\nif 1 less 2\nand\nend\nreturn 1", 3, impl.FlowUneven},
		{"workflow w\npatch p\nand\nend\nreturn 1", 3, impl.FlowUneven},
		{"workflow w\nwhile 1 less 2\nand\nend\nreturn 1", 3, impl.FlowUneven},
		{"workflow w\nboth\nand\nand\nend\nreturn 1", 4, impl.FlowUneven},
		{"workflow w\nboth\nif 1 less 2\nand\nend\nend\nreturn 1", 4, impl.FlowUneven},
		{"workflow w\nend\nreturn 1", 2, impl.FlowUneven},
		{"workflow w\nif 1 less 2\nend\nend\nreturn 1", 4, impl.FlowUneven},
		{"workflow w\nboth\nend\nreturn 1", 3, impl.FlowUneven},
		{"workflow w\nboth\nsleep 1\nboth\nand\nend\nend\nreturn 1", 7, impl.FlowUneven},
		{"workflow w\nif 1 less 2\nreturn 1", 3, impl.FlowUneven},
		{"workflow w\nif 1 less 2", 2, impl.FlowUneven},
		{"workflow w\nboth\nand", 3, impl.FlowUneven},
		{"workflow w\nwhile 1 less 2\nif 1 less 2\nend", 4, impl.FlowUneven},
		{"workflow w\npatch p\nelse\nreturn 1", 4, impl.FlowUneven},
	})
}

func TestBlocksThatStandRight(t *testing.T) {
	told(t, []faultCase{
		{"workflow w\nif 1 less 2\nelse\nend\nreturn 1", 0, 0},
		{"workflow w\npatch p\nelse\nend\nreturn 1", 0, 0},
		{"workflow w\npatch p\nend\nreturn 1", 0, 0},
		{"workflow w\nwhile 1 less 2\nend\nreturn 1", 0, 0},
		{"workflow w\nboth\nand\nend\nreturn 1", 0, 0},
		{"workflow w\nif 1 less 2\nif 1 less 2\nelse\nend\nelse\nif 1 less 2\nelse\nend\nend\nreturn 1", 0, 0},
		{"workflow w\nboth\nboth\nand\nend\nand\nboth\nand\nend\nend\nreturn 1", 0, 0},
		{"workflow w\nboth\nif 1 less 2\nelse\nend\nand\nend\nreturn 1", 0, 0},
	})
}

func TestDepthAtItsLimit(t *testing.T) {
	openers := []string{"if 1 less 2", "patch p", "while 1 less 2", "both"}
	for i := range openers {
		turned := append(append([]string(nil), openers[i:]...), openers[:i]...)
		told(t, []faultCase{
			{rows("workflow w", nested(impl.FlowMaxDeep, "sleep 1", turned...), "return 1"), 0, 0},
			{rows("workflow w", nested(impl.FlowMaxDeep+1, "sleep 1", turned...), "return 1"), 7, impl.FlowTooDeep},
			{rows("workflow w", nested(impl.FlowMaxDeep, "sleep 1", turned[0]), nested(impl.FlowMaxDeep, "sleep 1", turned[1]), "return 1"), 0, 0},
		})
	}
	five := strings.Repeat("if 1 less 2\n", 5)
	told(t, []faultCase{
		// At the last line what stays open counts ahead of what is too deep.
		{"workflow w\n" + five + "if 1 less 2", 7, impl.FlowUneven},
		{"workflow w\n" + five + "if 1 less 2\nend", 7, impl.FlowTooDeep},
		{"workflow w\n" + five + "else\nboth\nand\nend\nend\nend\nend\nend\nend\nreturn 1", 8, impl.FlowTooDeep},
	})
}

// How lines stand is looked at in all lines, ahead of what is known in any.
func TestStandsAheadOfKnown(t *testing.T) {
	told(t, []faultCase{
		{"workflow w\nlet a is b\nif 1 less 2\nreturn a", 4, impl.FlowUneven},
		{"workflow w\nreturn 1\nsleep 1\nend", 4, impl.FlowUneven},
		{"workflow w\nreturn b\n" + strings.Repeat("if 1 less 2\n", 6) + strings.Repeat("end\n", 5) + "end", 8, impl.FlowTooDeep},
	})
	refused(t, "workflow w\nlet a is b\nend\nlet 1 is 1", 4, impl.FlowBadLine)
	lines := append(linesOf(t, "workflow w\nlet a is b\nend"), impl.FlowLine{Kind: 99})
	if f := impl.FlowCheck(lines); f != (impl.FlowFault{Line: 3, Code: impl.FlowUneven}) {
		t.Error(f)
	}
	lines = append(linesOf(t, "workflow w\nif 1 less 2"), impl.FlowLine{Kind: 99})
	if f := impl.FlowCheck(lines); f != (impl.FlowFault{Line: 3, Code: impl.FlowBadLine}) {
		t.Error(f)
	}
}

// Promise 4, FlowUnknown.
func TestUnknown(t *testing.T) {
	told(t, []faultCase{
		{"workflow w n\nreturn n", 0, 0},
		{"workflow w n\nreturn w", 2, impl.FlowUnknown},
		{"workflow w\nlet a is a\nreturn 1", 2, impl.FlowUnknown},
		{"workflow w\nlet a add 1 a\nreturn 1", 2, impl.FlowUnknown},
		{"workflow w\ndo a b a\nreturn 1", 2, impl.FlowUnknown},
		{"workflow w\ndo a b\nreturn b", 3, impl.FlowUnknown},
		{"workflow w\ndo a b undo c\nreturn c", 3, impl.FlowUnknown},
		{"workflow w\nsleep a\nreturn 1", 2, impl.FlowUnknown},
		{"workflow w\nget a b for a\nreturn 1", 2, impl.FlowUnknown},
		{"workflow w\nget a b\nreturn b", 3, impl.FlowUnknown},
		{"workflow w\nif 1 less a\nend\nreturn 1", 2, impl.FlowUnknown},
		{"workflow w\nwhile a less 1\nlet a is 1\nend\nreturn 1", 2, impl.FlowUnknown},
		{"workflow w\nreturn a", 2, impl.FlowUnknown},
		{"workflow w\nfail a", 2, impl.FlowUnknown},
		{"workflow w\nnext 1 2 a", 2, impl.FlowUnknown},
		{"workflow w\npatch p\nend\nreturn p", 4, impl.FlowUnknown},
		{"workflow w\ndo a b\nget c d\nlet e sub a c\nreturn e", 0, 0},
		// A part of a block does not know what the other part does.
		{"workflow w\nif 1 less 2\nlet a is 1\nelse\nlet b is a\nend\nreturn 1", 5, impl.FlowUnknown},
		{"workflow w\nboth\nlet a is 1\nand\nlet b is a\nend\nreturn 1", 5, impl.FlowUnknown},
		{"workflow w\nif 1 less 2\nlet a is 1\nsleep a\nelse\nend\nreturn a", 7, impl.FlowUnknown},
		{"workflow w\nif 1 less 2\nelse\nlet a is 1\nsleep a\nend\nreturn a", 7, impl.FlowUnknown},
		{"workflow w\npatch p\nlet a is 1\nend\nreturn a", 5, impl.FlowUnknown},
		{"workflow w\nwhile 1 less 2\nlet a is 1\nsleep a\nend\nreturn a", 6, impl.FlowUnknown},
		// Behind both parts.
		{"workflow w\nif 1 less 2\nlet a is 1\nlet b is 1\nelse\nlet b is 2\nlet c is 2\nend\nreturn b", 0, 0},
		{"workflow w\nif 1 less 2\nlet a is 1\nlet b is 1\nelse\nlet b is 2\nlet c is 2\nend\nreturn c", 9, impl.FlowUnknown},
		{"workflow w\npatch p\nlet a is 1\nelse\ndo a b\nend\nreturn a", 0, 0},
		// Behind that part behind which one comes.
		{"workflow w\nif 1 less 2\nreturn 1\nelse\nlet a is 1\nend\nreturn a", 0, 0},
		{"workflow w\nif 1 less 2\nlet a is 1\nelse\nfail 1\nend\nreturn a", 0, 0},
		{"workflow w\npatch p\nlet a is 1\nnext\nelse\nlet b is 1\nend\nreturn a", 8, impl.FlowUnknown},
		{"workflow w\nif 1 less 2\nlet a is 1\nreturn a\nend\nreturn a", 6, impl.FlowUnknown},
		{"workflow w\nif 1 less 2\nif 1 less 2\nreturn 1\nelse\nfail 1\nend\nelse\nlet a is 1\nend\nreturn a", 0, 0},
		// Behind a FlowBoth what either part made known; behind a FlowWhile what was known ahead.
		{"workflow w\nboth\nlet a is 1\nand\nlet b is 1\nend\nlet c add a b\nreturn c", 0, 0},
		{"workflow w n\nwhile n less 9\nlet n add n 1\nend\nreturn n", 0, 0},
		{"workflow w\nlet a is 1\nwhile a less 9\nlet b is a\nlet a add b 1\nend\nreturn a", 0, 0},
		{"workflow w\nlet a is 1\nif a less 9\nlet a is 2\nend\nreturn a", 0, 0},
	})
}

// Promise 4, FlowDead.
func TestDead(t *testing.T) {
	told(t, []faultCase{
		{"workflow w\nreturn 1\nsleep 1", 3, impl.FlowDead},
		{"workflow w\nfail 1\nreturn 1", 3, impl.FlowDead},
		{"workflow w\nnext\nif 1 less 2\nend", 3, impl.FlowDead},
		{"workflow w\nnext\nboth\nand\nend", 3, impl.FlowDead},
		{"workflow w\nif 1 less 2\nreturn 1\nlet a is 1\nend\nreturn 1", 4, impl.FlowDead},
		{"workflow w\nwhile 1 less 2\nreturn 1\nsleep 1\nend\nreturn 1", 4, impl.FlowDead},
		{"workflow w\nif 1 less 2\nreturn 1\nelse\nfail 1\nend\nsleep 1", 7, impl.FlowDead},
		{"workflow w\npatch p\nnext\nelse\nnext\nend\npatch q\nend", 7, impl.FlowDead},
		{"workflow w\nif 1 less 2\nif 1 less 2\nreturn 1\nelse\nreturn 2\nend\nelse\nreturn 3\nend\nreturn 4", 11, impl.FlowDead},
		{"workflow w\nif 1 less 2\nif 1 less 2\nreturn 1\nelse\nreturn 2\nend\nsleep 1\nend\nreturn 4", 8, impl.FlowDead},
		// An end, an else and an and are none of these; behind a FlowWhile one comes.
		{"workflow w\nif 1 less 2\nreturn 1\nelse\nreturn 2\nend", 0, 0},
		{"workflow w\npatch p\nreturn 1\nend\nreturn 2", 0, 0},
		{"workflow w\nwhile 1 less 2\nreturn 1\nend\nreturn 2", 0, 0},
		{"workflow w\nwhile 1 less 2\nif 1 less 2\nreturn 1\nelse\nfail 2\nend\nend\nreturn 2", 0, 0},
	})
}

// Promise 4, FlowUneven of what would end a run within a FlowBoth.
func TestEndWithinBoth(t *testing.T) {
	told(t, []faultCase{
		{"workflow w\nboth\nreturn 1\nand\nend\nreturn 1", 3, impl.FlowUneven},
		{"workflow w\nboth\nand\nfail 1\nend\nreturn 1", 4, impl.FlowUneven},
		{"workflow w\nboth\nand\nnext\nend\nreturn 1", 4, impl.FlowUneven},
		{"workflow w\nboth\nif 1 less 2\nreturn 1\nend\nand\nend\nreturn 1", 4, impl.FlowUneven},
		{"workflow w\nboth\nand\nwhile 1 less 2\npatch p\nfail 1\nend\nend\nend\nreturn 1", 6, impl.FlowUneven},
		{"workflow w\nboth\nboth\nand\nend\nreturn 1\nand\nend\nreturn 1", 6, impl.FlowUneven},
		{"workflow w\nboth\nand\nend\nif 1 less 2\nreturn 1\nend\nreturn 1", 0, 0},
	})
}

// Promise 4, FlowTwice.
func TestTwice(t *testing.T) {
	both := func(first, second string) string {
		return rows("workflow w n m", "both", first, "and", second, "end", "return 1")
	}
	told(t, []faultCase{
		{both("let a is 1", "let a is 2"), 4, impl.FlowTwice},
		{both("do a b", "get a c"), 4, impl.FlowTwice},
		{both("let n is 1", "sleep n"), 4, impl.FlowTwice},
		{both("sleep n", "let n is 1"), 4, impl.FlowTwice},
		{both("let n is 1", "get a b for n"), 4, impl.FlowTwice},
		{both("do n b", "do a b 1 2 n"), 4, impl.FlowTwice},
		{both("let a add n 1", "let n add m 1"), 4, impl.FlowTwice},
		{both("get a go", "get b go"), 4, impl.FlowTwice},
		{both("get a go for 1", "get b go"), 4, impl.FlowTwice},
		{both("let n is 1", "if 1 less n\nend"), 4, impl.FlowTwice},
		{both("let n is 1", "while n less 1\nend"), 4, impl.FlowTwice},
		{both("let n is 1", "patch p\nif 1 less 2\nelse\nlet n is 1\nend\nend"), 4, impl.FlowTwice},
		{both("get a go", "both\nsleep 1\nand\nget b go\nend"), 4, impl.FlowTwice},
		{both("both\nlet a is 1\nand\nsleep 1\nend", "let a is 1"), 8, impl.FlowTwice},
		{both("both\nlet a is 1\nand\nlet a is 1\nend", "let a is 1"), 5, impl.FlowTwice},
		// What is no matter: used by both, names of what is done, of patches, of signals against numbers.
		{both("let a is n", "let b is n"), 0, 0},
		{both("let a is 1\nlet a is a", "sleep 1"), 0, 0},
		{both("get a go\nget a go", "sleep 1"), 0, 0},
		{both("do a pay undo back", "do b pay undo back"), 0, 0},
		{both("get a go", "do b go undo go"), 0, 0},
		{both("get a b", "get b a"), 0, 0},
		{both("let a is 1", "do b a undo a"), 0, 0},
		{both("let p is 1", "patch p\nend"), 0, 0},
		{rows("workflow w", "both", "let a is 1", "and", "end", "both", "let a is 2", "and", "end", "return a"), 0, 0},
	})
}

// Of several faults of what is known the first that one comes by, a FlowTwice being found at the end of its FlowBoth.
func TestOrderOfFaults(t *testing.T) {
	told(t, []faultCase{
		{"workflow w\nreturn 1\nsleep a", 3, impl.FlowDead},
		{"workflow w\nboth\nreturn a\nand\nend\nreturn 1", 3, impl.FlowUnknown},
		{"workflow w\nsleep a\nreturn 1\nsleep 1", 2, impl.FlowUnknown},
		{"workflow w\nreturn 1\nsleep 1\nsleep a", 3, impl.FlowDead},
		{"workflow w\nboth\nlet a is 1\nand\nlet a is 2\nsleep b\nend\nreturn 1", 6, impl.FlowUnknown},
		{"workflow w\nboth\nlet a is 1\nand\nlet a is 2\nreturn 1\nend\nreturn 1", 6, impl.FlowUneven},
		{"workflow w\nboth\nlet a is 1\nand\nlet a is 2\nend\nsleep b", 4, impl.FlowTwice},
		{"workflow w\nboth\nlet a is 1\nand\nlet a is 2\nend", 4, impl.FlowTwice},
		{"workflow w\nboth\nlet a is 1\nand\nboth\nlet b is 1\nand\nlet b is 2\nend\nlet a is 2\nend\nreturn 1", 7, impl.FlowTwice},
		{"workflow w\nsleep 1\nsleep a", 3, impl.FlowUnknown},
	})
}

// Promise 4, FlowNoReturn; a workflow that is right has two lines at least.
func TestNoReturn(t *testing.T) {
	told(t, []faultCase{
		{"workflow w", 1, impl.FlowNoReturn},
		{"workflow w\nsleep 1", 2, impl.FlowNoReturn},
		{"workflow w\nif 1 less 2\nreturn 1\nend", 4, impl.FlowNoReturn},
		{"workflow w\nif 1 less 2\nreturn 1\nelse\nsleep 1\nend", 6, impl.FlowNoReturn},
		{"workflow w\nif 1 less 2\nsleep 1\nelse\nreturn 1\nend", 6, impl.FlowNoReturn},
		{"workflow w\nwhile 1 less 2\nreturn 1\nend", 4, impl.FlowNoReturn},
		{"workflow w\nboth\nand\nend", 4, impl.FlowNoReturn},
		{"workflow w\nreturn 1", 0, 0},
		{"workflow w\nfail 1", 0, 0},
		{"workflow w\nnext", 0, 0},
	})
}

// Promise 3: lines that, written, are not read as they are, or can't be written.
func TestLinesThatAreNotReadAsTheyAre(t *testing.T) {
	bad := []impl.FlowLine{
		{}, {Kind: -1}, {Kind: 16}, {Kind: 99, Name: "a"}, {Kind: -1 << 63}, {Kind: 1<<63 - 1},
		{Kind: impl.FlowLet, To: "a", Name: "is"},
		{Kind: impl.FlowLet, To: "a", Name: "is", Args: []string{"1", "2"}},
		{Kind: impl.FlowLet, To: "a", Name: "is", Args: []string{""}},
		{Kind: impl.FlowLet, To: "a", Name: "is", Args: []string{"1", ""}},
		{Kind: impl.FlowLet, To: "", Name: "is", Args: []string{"1"}},
		{Kind: impl.FlowLet, To: "a", Name: "", Args: []string{"is", "1"}},
		{Kind: impl.FlowLet, To: "a is", Name: "1"},
		{Kind: impl.FlowLet, To: "a", Name: "is 1"},
		{Kind: impl.FlowLet, To: "a", Name: "is", Args: []string{" 1"}},
		{Kind: impl.FlowLet, To: "a", Name: "is", Args: []string{"1 "}},
		{Kind: impl.FlowLet, To: "a", Name: "is", Args: []string{"1\n"}},
		{Kind: impl.FlowLet, To: "a", Name: "is", Args: []string{"1\nsleep 1"}},
		{Kind: impl.FlowLet, To: "a", Name: "is", Args: []string{"1"}, Undo: "b"},
		{Kind: impl.FlowLet, To: "\xff", Name: "is", Args: []string{"1"}},
		{Kind: impl.FlowLet, To: "a", Name: "add", Args: []string{"1 2"}},
		{Kind: impl.FlowDo, To: "a", Name: "b", Args: []string{"undo", "c"}},
		{Kind: impl.FlowDo, To: "a", Name: "b", Args: []string{"1", "undo", "c"}},
		{Kind: impl.FlowDo, To: "a", Name: "b", Args: []string{"undo c"}},
		{Kind: impl.FlowDo, To: "a", Name: "b", Args: []string{"1", "2", "3", "4"}},
		{Kind: impl.FlowDo, To: "a", Name: "b", Undo: "1"},
		{Kind: impl.FlowDo, To: "a", Name: "b", Undo: " "},
		{Kind: impl.FlowDo, To: "a", Undo: "b"},
		{Kind: impl.FlowSleep},
		{Kind: impl.FlowSleep, Args: []string{"1", "2"}},
		{Kind: impl.FlowSleep, Args: []string{"1"}, To: "a"},
		{Kind: impl.FlowSleep, Args: []string{"1"}, Name: "a"},
		{Kind: impl.FlowSleep, Args: []string{"1"}, Undo: "a"},
		{Kind: impl.FlowGet, To: "a"},
		{Kind: impl.FlowGet, To: "a", Name: "b", Args: []string{"1", "2"}},
		{Kind: impl.FlowGet, To: "a", Name: "b", Args: []string{""}},
		{Kind: impl.FlowGet, To: "a", Name: "b for 1"},
		{Kind: impl.FlowIf, Name: "less"},
		{Kind: impl.FlowIf, Name: "less", Args: []string{"1"}},
		{Kind: impl.FlowIf, Name: "less", Args: []string{"1", "2", "3"}},
		{Kind: impl.FlowIf, Name: "is", Args: []string{"1", "2"}},
		{Kind: impl.FlowIf, Name: "less", Args: []string{"1 less 2", ""}},
		{Kind: impl.FlowIf, Name: "less", Args: []string{"1", "2"}, To: "a"},
		{Kind: impl.FlowWhile, Name: "less"},
		{Kind: impl.FlowWhile, Name: "less", Args: []string{"1"}},
		{Kind: impl.FlowWhile, Name: "less", Args: []string{"1", "2", "3"}},
		{Kind: impl.FlowElse, Args: []string{"1"}}, {Kind: impl.FlowElse, To: "a"}, {Kind: impl.FlowElse, Name: "a"}, {Kind: impl.FlowElse, Undo: "a"},
		{Kind: impl.FlowBoth, Name: "a"}, {Kind: impl.FlowAnd, To: "a"}, {Kind: impl.FlowEnd, Args: []string{""}},
		{Kind: impl.FlowReturn}, {Kind: impl.FlowReturn, Args: []string{"1", "1"}}, {Kind: impl.FlowReturn, Args: []string{"01"}}, {Kind: impl.FlowReturn, Args: []string{"1"}, Name: "a"},
		{Kind: impl.FlowFail}, {Kind: impl.FlowFail, Args: []string{"10000"}},
		{Kind: impl.FlowPatch}, {Kind: impl.FlowPatch, Name: "1"}, {Kind: impl.FlowPatch, Name: "a", Args: []string{"b"}}, {Kind: impl.FlowPatch, Name: "abcdefghi"},
		{Kind: impl.FlowNext, Args: []string{"1", "2", "3", "4"}}, {Kind: impl.FlowNext, Args: []string{""}}, {Kind: impl.FlowNext, Args: []string{"1", "", "2"}}, {Kind: impl.FlowNext, Args: []string{"1 2"}},
		{Kind: impl.FlowHead, Name: "w", Args: []string{"a", "a"}}, {Kind: impl.FlowHead, Name: "w a"}, {Kind: impl.FlowHead, Args: []string{"w"}}, {Kind: impl.FlowHead, Name: "w", To: "a"}, {Kind: impl.FlowHead, Name: "w", Undo: "a"},
	}
	for _, l := range bad {
		lines := []impl.FlowLine{{Kind: impl.FlowHead, Name: "w"}, l, {Kind: impl.FlowReturn, Args: []string{"1"}}}
		if f := impl.FlowCheck(lines); f != (impl.FlowFault{Line: 2, Code: impl.FlowBadLine}) || impl.FlowPrint(lines) != "" {
			t.Errorf("%+v: %+v", l, f)
		}
		lines = lines[1:]
		if f := impl.FlowCheck(lines); f != (impl.FlowFault{Line: 1, Code: impl.FlowBadLine}) {
			t.Errorf("%+v at first: %+v", l, f)
		}
	}
}

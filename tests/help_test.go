package tests

import (
	"slices"
	"strings"
	"testing"

	"loop.example/dunlin/impl"
)

// lineOf reads a line that is right, by hand, so that lines can be had without FlowParse.
func lineOf(t *testing.T, row string) impl.FlowLine {
	t.Helper()
	w := strings.Fields(row)
	switch w[0] {
	case "workflow":
		return impl.FlowLine{Kind: impl.FlowHead, Name: w[1], Args: w[2:]}
	case "let":
		return impl.FlowLine{Kind: impl.FlowLet, To: w[1], Name: w[2], Args: w[3:]}
	case "do":
		l := impl.FlowLine{Kind: impl.FlowDo, To: w[1], Name: w[2], Args: w[3:]}
		if n := len(w); n > 4 && w[n-2] == "undo" {
			l.Args, l.Undo = w[3:n-2], w[n-1]
		}
		return l
	case "get":
		l := impl.FlowLine{Kind: impl.FlowGet, To: w[1], Name: w[2]}
		if len(w) > 3 {
			l.Args = w[4:]
		}
		return l
	case "if":
		return impl.FlowLine{Kind: impl.FlowIf, Name: w[2], Args: []string{w[1], w[3]}}
	case "while":
		return impl.FlowLine{Kind: impl.FlowWhile, Name: w[2], Args: []string{w[1], w[3]}}
	case "patch":
		return impl.FlowLine{Kind: impl.FlowPatch, Name: w[1]}
	}
	kinds := map[string]int{"sleep": impl.FlowSleep, "else": impl.FlowElse, "both": impl.FlowBoth, "and": impl.FlowAnd, "end": impl.FlowEnd, "return": impl.FlowReturn, "fail": impl.FlowFail, "next": impl.FlowNext}
	if kinds[w[0]] == 0 {
		t.Fatalf("no line: %q", row)
	}
	return impl.FlowLine{Kind: kinds[w[0]], Args: w[1:]}
}

func linesOf(t *testing.T, text string) []impl.FlowLine {
	t.Helper()
	var lines []impl.FlowLine
	for _, row := range strings.Split(text, "\n") {
		if strings.TrimSpace(row) != "" {
			lines = append(lines, lineOf(t, row))
		}
	}
	return lines
}

func same(a, b []impl.FlowLine) bool {
	return slices.EqualFunc(a, b, func(x, y impl.FlowLine) bool {
		return x.Kind == y.Kind && x.To == y.To && x.Name == y.Name && x.Undo == y.Undo && slices.Equal(x.Args, y.Args)
	})
}

func deepCopy(lines []impl.FlowLine) []impl.FlowLine {
	out := slices.Clone(lines)
	for i := range out {
		out[i].Args = slices.Clone(out[i].Args)
	}
	return out
}

// rows joins lines of a text.
func rows(list ...string) string {
	return strings.Join(list, "\n")
}

// nested is so many blocks in each other, of these first lines in turn, around a line.
func nested(deep int, inner string, openers ...string) string {
	var list []string
	for i := range deep {
		list = append(list, openers[i%len(openers)])
	}
	list = append(list, inner)
	for i := deep - 1; i >= 0; i-- {
		if openers[i%len(openers)] == "both" {
			list = append(list, "and")
		}
		list = append(list, "end")
	}
	return rows(list...)
}

// refused asks that a text has this fault, and no lines.
func refused(t *testing.T, text string, line, code int) {
	t.Helper()
	lines, f := impl.FlowParse(text)
	if f != (impl.FlowFault{Line: line, Code: code}) || len(lines) != 0 {
		t.Errorf("%q: %+v, asked for line %d, code %d", text, f, line, code)
	}
}

// taken asks that a text is read, and reads as it is written.
func taken(t *testing.T, text string) []impl.FlowLine {
	t.Helper()
	lines, f := impl.FlowParse(text)
	if f != (impl.FlowFault{}) {
		t.Errorf("%q: %+v", text, f)
		return nil
	}
	written := impl.FlowPrint(lines)
	again, f := impl.FlowParse(written)
	if f != (impl.FlowFault{}) || !same(again, lines) || impl.FlowPrint(again) != written {
		t.Errorf("%q: written %q, read again %v, %+v", text, written, again, f)
	}
	return lines
}

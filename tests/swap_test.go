package tests

import (
	"fmt"
	"slices"
	"strings"
	"testing"

	"loop.example/dunlin/impl"
)

// linesBy are lines parted by strokes; they need not be a workflow.
func linesBy(t *testing.T, text string) []impl.FlowLine {
	t.Helper()
	return linesOf(t, strings.ReplaceAll(text, "|", "\n"))
}

// swapCase is a change, and what comes of it; "" is that it is refused.
type swapCase struct {
	from, to int
	name     string
	more     string
	want     string
}

func allSwapped(t *testing.T, text string, list []swapCase) {
	t.Helper()
	lines := linesBy(t, text)
	for _, c := range list {
		more := linesBy(t, c.more)
		got, ok := swapped(t, lines, c.from, c.to, c.name, more)
		if ok != (c.want != "") || !same(got, linesBy(t, c.want)) {
			t.Errorf("%s: %d to %d, %q, %q: %v, %s", text, c.from, c.to, c.name, c.more, ok, impl.FlowPrint(got))
		}
	}
}

const blocksFlow = "workflow w n|if n less 1|sleep 2|else|sleep 3|end|while n less 0|sleep 4|end|both|sleep 5|and|sleep 6|end|patch p|sleep 7|end|return n"

func TestStretchesPutIn(t *testing.T) {
	allSwapped(t, payFlow, []swapCase{
		{1, 1, "fix", "do b mail", "workflow w n|patch fix|do b mail|end|do a pay n|patch fast|sleep 1|end|return a"},
		{2, 2, "fix", "do b mail a", "workflow w n|do a pay n|patch fix|do b mail a|end|patch fast|sleep 1|end|return a"},
		{3, 3, "fix", "sleep a", "workflow w n|do a pay n|patch fast|patch fix|sleep a|end|sleep 1|end|return a"},
		{4, 4, "fix", "fail 1", "workflow w n|do a pay n|patch fast|sleep 1|patch fix|fail 1|end|end|return a"},
		{5, 5, "fix", "if a less 1|return 1|else|sleep 1|end", "workflow w n|do a pay n|patch fast|sleep 1|end|patch fix|if a less 1|return 1|else|sleep 1|end|end|return a"},
		// One past the last line nobody comes; one more is no place.
		{6, 6, "fix", "sleep 1", ""},
		{6, 6, "fix", "return a", ""},
		{7, 7, "fix", "sleep 1", ""},
		{0, 0, "fix", "sleep 1", ""},
		{-1, -1, "fix", "sleep 1", ""},
		// No line at all.
		{1, 1, "fix", "", "workflow w n|patch fix|end|do a pay n|patch fast|sleep 1|end|return a"},
		{3, 3, "fix", "", "workflow w n|do a pay n|patch fast|patch fix|end|sleep 1|end|return a"},
		{6, 6, "fix", "", ""},
		// Names that have no number there.
		{1, 1, "fix", "sleep a", ""},
		{2, 2, "fix", "let b is 1|sleep b", "workflow w n|do a pay n|patch fix|let b is 1|sleep b|end|patch fast|sleep 1|end|return a"},
	})
	allSwapped(t, blocksFlow, []swapCase{
		{2, 2, "x", "sleep 1", strings.Replace(blocksFlow, "sleep 2", "patch x|sleep 1|end|sleep 2", 1)},
		{3, 3, "x", "sleep 1", strings.Replace(blocksFlow, "sleep 2", "sleep 2|patch x|sleep 1|end", 1)},
		{5, 5, "x", "sleep 1", strings.Replace(blocksFlow, "sleep 3", "sleep 3|patch x|sleep 1|end", 1)},
		{6, 6, "x", "sleep 1", strings.Replace(blocksFlow, "while", "patch x|sleep 1|end|while", 1)},
		{8, 8, "x", "sleep 1", strings.Replace(blocksFlow, "sleep 4", "sleep 4|patch x|sleep 1|end", 1)},
		{10, 10, "x", "sleep 1", strings.Replace(blocksFlow, "sleep 5", "patch x|sleep 1|end|sleep 5", 1)},
		{11, 11, "x", "sleep 1", strings.Replace(blocksFlow, "sleep 5", "sleep 5|patch x|sleep 1|end", 1)},
		{13, 13, "x", "sleep 1", strings.Replace(blocksFlow, "sleep 6", "sleep 6|patch x|sleep 1|end", 1)},
		{17, 17, "x", "next 1", strings.Replace(blocksFlow, "return", "patch x|next 1|end|return", 1)},
		// Nothing ends within both, and no part touches the other one.
		{10, 10, "x", "return 1", ""},
		{11, 11, "x", "let n is 1", strings.Replace(blocksFlow, "sleep 5", "sleep 5|patch x|let n is 1|end", 1)},
	})
	allSwapped(t, "workflow w|both|let a is 1|and|get b go|end|return a", []swapCase{
		{2, 2, "x", "let b is 1", ""}, {2, 2, "x", "get c go", ""}, {5, 5, "x", "let a is 2", ""}, {5, 5, "x", "sleep a", ""},
		{2, 2, "x", "get c no", "workflow w|both|patch x|get c no|end|let a is 1|and|get b go|end|return a"},
	})
}

func TestStretchesChanged(t *testing.T) {
	allSwapped(t, payFlow, []swapCase{
		{1, 2, "fix", "do a mail n", "workflow w n|patch fix|do a mail n|else|do a pay n|end|patch fast|sleep 1|end|return a"},
		{1, 2, "fix", "let a is 1", "workflow w n|patch fix|let a is 1|else|do a pay n|end|patch fast|sleep 1|end|return a"},
		// What was known behind the stretch must be so in both parts, unless one does not come there.
		{1, 2, "fix", "do b mail n", ""},
		{1, 2, "fix", "", ""},
		{1, 2, "fix", "return 1", "workflow w n|patch fix|return 1|else|do a pay n|end|patch fast|sleep 1|end|return a"},
		{2, 5, "fix", "", "workflow w n|do a pay n|patch fix|else|patch fast|sleep 1|end|end|return a"},
		{2, 5, "fix", "sleep 2", "workflow w n|do a pay n|patch fix|sleep 2|else|patch fast|sleep 1|end|end|return a"},
		{3, 4, "fix", "sleep 2", "workflow w n|do a pay n|patch fast|patch fix|sleep 2|else|sleep 1|end|end|return a"},
		{1, 5, "fix", "do a x", "workflow w n|patch fix|do a x|else|do a pay n|patch fast|sleep 1|end|end|return a"},
		// The last line, and all of them: one must not come behind either part.
		{5, 6, "fix", "return n", "workflow w n|do a pay n|patch fast|sleep 1|end|patch fix|return n|else|return a|end"},
		{5, 6, "fix", "sleep 1|fail 3", "workflow w n|do a pay n|patch fast|sleep 1|end|patch fix|sleep 1|fail 3|else|return a|end"},
		{5, 6, "fix", "sleep 1", ""},
		{5, 6, "fix", "", ""},
		{1, 6, "fix", "next n", "workflow w n|patch fix|next n|else|do a pay n|patch fast|sleep 1|end|return a|end"},
		{1, 6, "fix", "return a", ""},
		// Out of place.
		{0, 1, "fix", "sleep 2", ""},
		{0, 2, "fix", "do a mail n", ""},
		{-1, 2, "fix", "do a mail n", ""},
		{5, 7, "fix", "return n", ""},
		{6, 7, "fix", "return n", ""},
		{2, 1, "fix", "do a mail n", ""},
		{5, 3, "fix", "", ""},
		{6, 5, "fix", "return n", ""},
		{1, -1, "fix", "", ""},
		{1 << 62, 1 << 62, "fix", "", ""},
		{1, 1 << 62, "fix", "return n", ""},
		{-1 << 62, 2, "fix", "", ""},
	})
	allSwapped(t, blocksFlow, []swapCase{
		{1, 6, "x", "", strings.Replace(blocksFlow, "if n less 1|sleep 2|else|sleep 3|end", "patch x|else|if n less 1|sleep 2|else|sleep 3|end|end", 1)},
		{1, 17, "x", "sleep 1", "workflow w n|patch x|sleep 1|else|if n less 1|sleep 2|else|sleep 3|end|while n less 0|sleep 4|end|both|sleep 5|and|sleep 6|end|patch p|sleep 7|end|end|return n"},
		{6, 14, "x", "sleep 1", "workflow w n|if n less 1|sleep 2|else|sleep 3|end|patch x|sleep 1|else|while n less 0|sleep 4|end|both|sleep 5|and|sleep 6|end|end|patch p|sleep 7|end|return n"},
		{10, 11, "x", "sleep 1", strings.Replace(blocksFlow, "sleep 5", "patch x|sleep 1|else|sleep 5|end", 1)},
		{12, 13, "x", "", strings.Replace(blocksFlow, "sleep 6", "patch x|else|sleep 6|end", 1)},
	})
}

func TestStretchesThatAreNotEven(t *testing.T) {
	var list []swapCase
	for _, c := range []struct{ from, to int }{
		// Lines that leave something open, or close it.
		{1, 2}, {1, 3}, {1, 4}, {1, 5}, {4, 6}, {5, 6}, {2, 6}, {6, 7}, {6, 8}, {7, 9}, {8, 9}, {9, 10}, {9, 13}, {13, 14}, {14, 15}, {14, 16}, {15, 17}, {16, 17},
		// A FlowElse or FlowAnd outside of all that they open.
		{3, 4}, {2, 4}, {2, 5}, {3, 5}, {11, 12}, {10, 12}, {10, 13}, {11, 13},
		// Lines that close one thing and open another one.
		{5, 7}, {4, 8}, {3, 7}, {8, 10}, {7, 11}, {5, 10}, {13, 15}, {12, 16},
	} {
		list = append(list, swapCase{c.from, c.to, "x", "sleep 1", ""}, swapCase{c.from, c.to, "x", "", ""})
	}
	allSwapped(t, blocksFlow, list)
	// More that is not even, in all ways; some of it would fit to what stands around it.
	list = nil
	for _, more := range []string{
		"end", "else", "and", "if n less 1", "patch q", "while n less 1", "both", "both|and",
		"end|if n less 1", "end|patch q", "sleep 1|end|while n less 1", "end|both|and",
		"else|sleep 1", "sleep 1|else", "sleep 1|else|sleep 1", "if n less 1|end|else", "if n less 1|else|end|else|sleep 1", "and|sleep 1", "both|and|end|and",
		"if n less 1|sleep 1|end|end", "if n less 1|if n less 2|end", "end|end", "else|end|if n less 1", "end|patch q|else", "else|if n less 1|end", "end|sleep 1|patch q",
	} {
		for _, at := range []int{1, 2, 3, 4, 5, 7, 10, 12, 15, 17} {
			list = append(list, swapCase{at, at, "x", more, ""})
		}
		list = append(list, swapCase{2, 3, "x", more, ""}, swapCase{1, 6, "x", more, ""}, swapCase{9, 14, "x", more, ""})
	}
	allSwapped(t, blocksFlow, list)
	// What is even, and still stands wrong.
	list = nil
	for _, more := range []string{"while n less 1|else|end", "both|else|end", "both|end", "if n less 1|and|end", "if n less 1|else|else|end", "both|and|and|end", "workflow v", "workflow w n"} {
		list = append(list, swapCase{2, 2, "x", more, ""}, swapCase{2, 3, "x", more, ""})
	}
	allSwapped(t, blocksFlow, list)
}

func TestNamesOfPatches(t *testing.T) {
	var list []swapCase
	for _, name := range []string{"", "X", "1x", "x 1", "x23456789", "-", "é", "x\n", "x\xff", " x"} {
		list = append(list, swapCase{1, 1, name, "sleep 1", ""}, swapCase{2, 5, name, "", ""})
	}
	list = append(list,
		swapCase{1, 1, "x2345678", "", "workflow w n|patch x2345678|end|do a pay n|patch fast|sleep 1|end|return a"},
		// One that is there: ahead of the place, behind it, around it, within the stretch, and in more.
		swapCase{1, 1, "fast", "sleep 1", ""}, swapCase{5, 5, "fast", "sleep 1", ""}, swapCase{3, 3, "fast", "sleep 1", ""}, swapCase{3, 4, "fast", "sleep 1", ""}, swapCase{2, 5, "fast", "sleep 1", ""},
		swapCase{1, 1, "fix", "patch fix|end", ""}, swapCase{1, 1, "fix", "sleep 1|if n less 1|patch fix|sleep 1|end|end", ""}, swapCase{2, 5, "fix", "patch fix|end", ""},
		// Another one may be in more, even one that is there already, or twice.
		swapCase{1, 1, "fix", "patch fast|end|patch fast|end", "workflow w n|patch fix|patch fast|end|patch fast|end|end|do a pay n|patch fast|sleep 1|end|return a"},
		swapCase{2, 5, "fix", "patch q|end", "workflow w n|do a pay n|patch fix|patch q|end|else|patch fast|sleep 1|end|end|return a"},
		// A thing by this name that is no patch is none.
		swapCase{1, 1, "pay", "do fix pay", "workflow w n|patch pay|do fix pay|end|do a pay n|patch fast|sleep 1|end|return a"},
		swapCase{1, 1, "a", "get a a", "workflow w n|patch a|get a a|end|do a pay n|patch fast|sleep 1|end|return a"},
		swapCase{1, 1, "w", "", "workflow w n|patch w|end|do a pay n|patch fast|sleep 1|end|return a"},
		swapCase{1, 1, "patch", "", "workflow w n|patch patch|end|do a pay n|patch fast|sleep 1|end|return a"},
	)
	allSwapped(t, payFlow, list)
}

func TestLinesWithAFaultAreNotChanged(t *testing.T) {
	for _, text := range []string{"", "workflow w", "return 1", "sleep 1|return 1", "workflow w|sleep 1", "workflow w|sleep a|return 1", "workflow w|return 1|sleep 1", "workflow w|return 1|return 2", "workflow w|if 1 less 2|return 1", "workflow w|end|return 1", "workflow w|return 1|workflow w"} {
		// A change that would mend it does not help.
		for from := range 4 {
			for to := range 4 {
				for _, more := range []string{"", "sleep 1", "return 1", "let a is 1"} {
					allSwapped(t, text, []swapCase{{from, to, "x", more, ""}})
				}
			}
		}
	}
	lines := flow(t, payFlow)
	for _, wrong := range []impl.FlowLine{{}, {Kind: 99}, {Kind: -1}, {Kind: impl.FlowSleep}, {Kind: impl.FlowLet, To: "b", Name: "is"}, {Kind: impl.FlowSleep, Args: []string{"x y"}}, {Kind: impl.FlowPatch}, {Kind: impl.FlowReturn, Args: []string{"10000"}}} {
		if got, ok := swapped(t, lines, 2, 2, "fix", []impl.FlowLine{wrong}); ok || len(got) != 0 {
			t.Errorf("%v: %v", wrong, got)
		}
		for place := range lines {
			spoilt := slices.Clone(lines)
			spoilt[place] = wrong
			if got, ok := swapped(t, spoilt, 2, 2, "fix", nil); ok || len(got) != 0 {
				t.Errorf("%v at %d: %v", wrong, place, got)
			}
		}
	}
	for _, more := range []string{"sleep b", "let c is b", "return 1|sleep 1", "if b less 1|end", "both|let c is 1|and|sleep c|end", "both|return 1|and|end"} {
		allSwapped(t, payFlow, []swapCase{{2, 2, "fix", more, ""}, {2, 5, "fix", more, ""}})
	}
}

func TestChangesAtTheLimitOfLines(t *testing.T) {
	sleeps := func(count int) string { return strings.Repeat("sleep 1|", count) }
	for _, c := range []struct {
		lines, from, to, more int
		ok                    bool
	}{
		{58, 1, 1, 0, true}, {59, 1, 1, 0, false}, {60, 1, 1, 0, false}, {57, 1, 1, 1, true}, {58, 1, 1, 1, false}, {2, 1, 1, 56, true}, {2, 1, 1, 57, false}, {2, 1, 1, 500, false},
		{57, 1, 2, 0, true}, {58, 1, 2, 0, false}, {60, 1, 59, 0, false}, {57, 1, 56, 0, true}, {58, 1, 57, 0, false}, {57, 3, 50, 0, true}, {56, 3, 50, 1, true}, {56, 3, 50, 2, false}, {30, 29, 29, 28, true}, {30, 29, 29, 29, false},
		// Too many to begin with.
		{61, 1, 60, 0, false}, {61, 1, 1, 0, false},
	} {
		text := "workflow w|" + sleeps(c.lines-2) + "return 1"
		lines, more := linesBy(t, text), linesBy(t, sleeps(c.more))
		got, ok := swapped(t, lines, c.from, c.to, "x", more)
		if len(lines) != c.lines || ok != c.ok || ok && len(got) > impl.FlowMaxLines {
			t.Errorf("%+v: %v, %d", c, ok, len(got))
		}
	}
}

func TestChangesAtTheLimitOfBlocks(t *testing.T) {
	for around := range 6 {
		for within := range 6 {
			for _, opener := range []string{"if 1 less 2", "patch q", "while 1 less 2", "both"} {
				head := rows("workflow w", nested(around, "sleep 1", "if 1 less 2", "while 1 less 2", "patch p"), "return 1")
				lines, more := linesOf(t, head), linesOf(t, nested(within, "sleep 2", opener))
				for _, to := range []int{around + 1, around + 2} {
					if _, ok := swapped(t, lines, around+1, to, "x", more); ok != (around+1+within <= impl.FlowMaxDeep) {
						t.Errorf("%d around, %d within, %s: %v", around, within, opener, ok)
					}
				}
				// The stretch itself is one deeper, too.
				if _, ok := swapped(t, lines, 1, len(lines)-1, "x", more); ok != (around+1 <= impl.FlowMaxDeep && within+1 <= impl.FlowMaxDeep) {
					t.Errorf("%d around, %d within, %s, all of it: %v", around, within, opener, ok)
				}
			}
		}
	}
}

// At each pair of places, and behind the ends: lines are let in just where they fit, all old ones stay, and no history is broken.
func TestChangesAtEachPlace(t *testing.T) {
	t.Parallel()
	seen := map[bool]int{}
	mores := []string{"", "sleep 9", "let z is 1", "return 3", "fail 4", "do z x|if z less 1|next 1|else|get y go|end", "both|sleep 1|and|do z x undo u|end", "while 1 less 2|sleep 1|end", "patch p|sleep 1|end", "end", "if 1 less 2", "end|if 1 less 2", "else", "and", "sleep q"}
	for _, text := range []string{payFlow, tripFlow, blocksFlow, "workflow w|return 1", "workflow w a b c|both|both|sleep a|and|get d go for 2|end|and|while b less 2|do e x b undo u|let b add b 1|end|end|if c less 1|return e|else|fail d|end"} {
		lines := flow(t, strings.Replace(text, "return e", "return b", 1))
		args := make([]int, len(lines[0].Args))
		var pasts [][]impl.HistEntry
		for _, most := range []int{0, 1, 2, 3, 50} {
			pasts = append(pasts, impl.HistOf(lines, args, nil, nil, most), impl.HistOf(lines, args, vars("go 1"), []int{1}, most))
		}
		for from := -2; from <= len(lines)+2; from++ {
			for to := -2; to <= len(lines)+2; to++ {
				for _, more := range mores {
					changed, ok := swapped(t, lines, from, to, "x", linesBy(t, more))
					seen[ok]++
					if !ok {
						continue
					}
					keptInOrder(t, lines, changed, from, to)
					for _, list := range pasts {
						doneAlike(t, lines, changed, list)
					}
				}
			}
		}
	}
	if seen[true] < 500 || seen[false] < 500 {
		t.Errorf("%v", seen)
	}
}

// What is answered is new memory, and nothing is written into what is handed in, or behind its end.
func TestChangesAreNewMemory(t *testing.T) {
	room := func(lines []impl.FlowLine) []impl.FlowLine {
		for i := range lines {
			lines[i].Args = roomy(lines[i].Args, "behind")
		}
		return roomy(lines, impl.FlowLine{Kind: 77, Args: []string{"behind"}})
	}
	whole := func(lines []impl.FlowLine) string {
		text := ""
		for _, l := range lines[:cap(lines)] {
			text += fmt.Sprintf("%+v %v\n", l, l.Args[:cap(l.Args)])
		}
		return text
	}
	lines := room(flow(t, "workflow w n m|do a pay n m undo back|if a less m|next a m|else|get c go for n|end|both|do d x a|and|do e x n|end|return d"))
	more := room(linesBy(t, "do b pay n m undo back|if b less 2|next b n m|end"))
	before, moreBefore := whole(lines), whole(more)
	lets := 0
	for from := range len(lines) + 2 {
		for to := range len(lines) + 2 {
			got, ok := impl.VerSwap(lines, from, to, "x", more)
			if ok {
				lets++
			} else if len(got) != 0 {
				t.Errorf("%d to %d: %v", from, to, got)
			}
			put, _ := impl.VerInsert(lines, from, "x", more)
			lieApart(t, spansOfLines("lines", lines), spansOfLines("more", more), spansOfLines("swapped", got), spansOfLines("put in", put))
			for _, l := range slices.Concat(got[:cap(got)], put[:cap(put)]) {
				if l.Kind == 77 || slices.Contains(l.Args[:cap(l.Args)], "behind") {
					t.Errorf("%v is of behind an end", l)
				}
			}
		}
	}
	// One list as both, and a piece of it, is no matter.
	same := room(linesBy(t, "workflow w|sleep 1|sleep 2|return 3"))
	kept := whole(same)
	got, ok := impl.VerSwap(same, 1, 3, "x", same[1:3])
	if !ok || impl.FlowPrint(got) != "workflow w\npatch x\nsleep 1\nsleep 2\nelse\nsleep 1\nsleep 2\nend\nreturn 3\n" {
		t.Errorf("%v, %s", ok, impl.FlowPrint(got))
	}
	lieApart(t, spansOfLines("lines", same), spansOfLines("swapped", got))
	if whole(lines) != before || whole(more) != moreBefore || whole(same) != kept || lets < 5 {
		t.Errorf("changed, or %d let in\n%s%s%s", lets, whole(lines), whole(more), whole(same))
	}
}

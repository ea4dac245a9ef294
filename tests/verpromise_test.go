package tests

import (
	"fmt"
	"math/rand"
	"strings"
	"testing"

	"loop.example/dunlin/impl"
)

// anyStretch is lines of any kind, mostly even; what they use has a number in a lively flow.
func anyStretch(t *testing.T, r *rand.Rand) []impl.FlowLine {
	t.Helper()
	names := []string{"a", "b", "c", "d", "e", "f"}
	m := &lively{Rand: r}
	s := scope{names, names, []string{"go", "no"}}
	if r.Intn(2) == 0 {
		// Less is more often let into a part of a FlowBoth.
		s = scope{names[r.Intn(6):][:1], []string{"1"}, []string{"so"}}
	}
	for range r.Intn(4) {
		m.row(r.Intn(3), s)
	}
	if r.Intn(8) == 0 {
		m.add(m.one([]string{"return 1", "fail 2", "next", "end", "else", "and", "both", "if 1 less 2", "let z is y"}))
	}
	return linesOf(t, rows(m.rows...))
}

// anySwap is a change of a workflow, mostly of an even stretch, and often one that is let.
func anySwap(t *testing.T, r *rand.Rand, lines []impl.FlowLine) (from, to int, name string, more []impl.FlowLine) {
	t.Helper()
	for range 9 {
		from = r.Intn(len(lines) + 2)
		to = from + []int{0, 0, 1, 1, 2, 3, 5, 8, len(lines) - 1 - from, -1}[r.Intn(10)]
		if 0 <= from && from <= to && to <= len(lines) && evenBy(lines[from:to]) {
			break
		}
	}
	return from, to, []string{"fix", "fix", "fix", "p", "q", "Fix"}[r.Intn(6)], anyStretch(t, r)
}

// anyPast is a history of a workflow behind things that happened to it, small or not.
func anyPast(r *rand.Rand, lines []impl.FlowLine, args []int) []impl.HistEntry {
	list := impl.HistOf(lines, args, anySignals(r), []int{r.Intn(7), r.Intn(7)}, r.Intn(8))
	for range r.Intn(8) {
		s, _ := impl.HistReplay(lines, list)
		if s.Stands == impl.RunLive {
			list, _ = impl.HistMore(lines, list, anyHap(r, s))
		}
	}
	return list
}

// A change within a patch leaves all lines in their places, and breaks no history of the workflow ahead of it; nor does a second one.
func TestChangesOfAnyWorkflows(t *testing.T) {
	t.Parallel()
	r := rand.New(rand.NewSource(41))
	seen := map[string]int{}
	for range 1000 {
		lines, args := livelyFlow(r)
		from, to, name, more := anySwap(t, r, lines)
		before := fmt.Sprint(lines, more)
		changed, ok := swapped(t, lines, from, to, name, more)
		if fmt.Sprint(lines, more) != before {
			t.Fatalf("%s became %v, %v", before, lines, more)
		}
		seen[fmt.Sprint(ok, from == to)]++
		if !ok {
			continue
		}
		keptInOrder(t, lines, changed, from, to)
		again, twice := swapped(t, changed, 1+r.Intn(len(changed)), 1+r.Intn(len(changed)), "two", anyStretch(t, r))
		if !twice {
			again, twice = impl.VerInsert(changed, 1, "two", linesOf(t, "sleep 1"))
		}
		for range 6 {
			list := anyPast(r, lines, args)
			doneAlike(t, lines, changed, list)
			if twice {
				seen["twice"]++
				doneAlike(t, lines, again, list)
				doneAlike(t, changed, again, anyPast(r, changed, args))
			}
			s, _ := impl.HistReplay(lines, list)
			seen[fmt.Sprint("stands ", s.Stands, s.Ending)]++
		}
	}
	for _, what := range []string{"true true", "true false", "false true", "false false", "twice", "stands 0 false", "stands 0 true", "stands 1 false", "stands 2 false", "stands 3 false", "stands 4 false"} {
		if seen[what] < 20 {
			t.Errorf("%s came %d times: %v", what, seen[what], seen)
		}
	}
}

// A run that does the most steps at once that it may does them all the same with a patch ahead of any of them.
func TestChangesOfBusyRuns(t *testing.T) {
	t.Parallel()
	for count := 64; count <= 69; count++ {
		for _, tail := range []string{"return i", "sleep 1|return i", "if i less 0|end|return i", "both|and|end|return i"} {
			lines := flow(t, fmt.Sprintf("workflow w|let i is 0|while i less %d|let j is 1|let i add i 1|end|%s", count, tail))
			list := impl.HistOf(lines, nil, nil, nil, 9)
			for from := 1; from < len(lines); from++ {
				for to := from; to <= len(lines); to++ {
					if changed, ok := swapped(t, lines, from, to, "x", linesOf(t, "let i is 3\nlet j is 4")); ok {
						doneAlike(t, lines, changed, list)
					}
				}
			}
		}
	}
}

// alteredFlow is a workflow with some lines altered; it may do all the same.
func alteredFlow(r *rand.Rand, lines []impl.FlowLine) []impl.FlowLine {
	for {
		other := deepCopy(lines)
		for range 1 + r.Intn(2) {
			l := &other[1+r.Intn(len(other)-1)]
			switch {
			case l.Kind == impl.FlowDo && r.Intn(3) == 0:
				l.Name = "z"
			case l.Kind == impl.FlowDo && r.Intn(2) == 0:
				l.Undo = []string{"", "unx", "unz"}[r.Intn(3)]
			case l.Kind == impl.FlowPatch:
				l.Name = []string{"p", "q", "z"}[r.Intn(3)]
			case l.Kind == impl.FlowGet && r.Intn(2) == 0:
				l.Name = []string{"go", "no", "so"}[r.Intn(3)]
			case len(l.Args) > 0:
				l.Args[r.Intn(len(l.Args))] = []string{"0", "1", "2"}[r.Intn(3)]
			}
		}
		if impl.FlowCheck(other).Code == 0 {
			return other
		}
	}
}

// A look at any two workflows tells what a second reckoning does: what is called unsafe breaks a history, what is called safe breaks no small one.
func TestLooksAtAnyWorkflows(t *testing.T) {
	t.Parallel()
	r := rand.New(rand.NewSource(42))
	seen := map[string]int{}
	for range 300 {
		old, _ := livelyFlow(r)
		next := alteredFlow(r, old)
		if r.Intn(20) == 0 {
			next, _ = livelyFlow(r)
		}
		before := fmt.Sprint(old, next)
		code, list := impl.VerLook(old, next)
		want, text, place := lookBy(t, old, next)
		if code != want || rowsBy(list) != text || fmt.Sprint(old, next) != before {
			t.Fatalf("%sand\n%s%d, %s, asked for %d, %s", impl.FlowPrint(old), impl.FlowPrint(next), code, rowsBy(list), want, text)
		}
		seen[fmt.Sprint("code ", code)]++
		if code == 1 {
			partsThere(t, old, next, list)
			if place > 10 {
				seen["late"]++
			}
			for _, e := range list[1:] {
				if hapBy(e).Kind != 0 {
					seen[kindNames[e.Kind]]++
				}
			}
		}
	}
	for _, what := range []string{"code 0", "code 1", "code 2", "late", "done", "fired", "signal"} {
		if seen[what] < 10 {
			t.Errorf("%s came %d times: %v", what, seen[what], seen)
		}
	}
}

// A workflow that is not changed breaks nothing, and one that is changed within a patch neither.
func TestLooksAtChanges(t *testing.T) {
	t.Parallel()
	r := rand.New(rand.NewSource(43))
	seen := map[int]int{}
	for range 250 {
		lines, _ := livelyFlow(r)
		unchanged, list := impl.VerLook(lines, lines)
		if unchanged == 1 || len(list) != 0 {
			t.Fatalf("%s%d, %s", impl.FlowPrint(lines), unchanged, rowsBy(list))
		}
		from, to, name, more := anySwap(t, r, lines)
		if changed, ok := impl.VerSwap(lines, from, to, name, more); ok {
			code, list := impl.VerLook(lines, changed)
			seen[code]++
			if code != unchanged || len(list) != 0 {
				t.Fatalf("%sand\n%s%d, %s", impl.FlowPrint(lines), impl.FlowPrint(changed), code, rowsBy(list))
			}
		}
	}
	if seen[0] < 20 || seen[2] < 20 {
		t.Errorf("%v", seen)
	}
}

// What a look tells hangs on what is handed in alone, from however many sides, and however often, it is asked.
func TestLooksHangOnNothingElse(t *testing.T) {
	t.Parallel()
	r := rand.New(rand.NewSource(44))
	for range 25 {
		old, _ := livelyFlow(r)
		next := alteredFlow(r, old)
		ask := func() string {
			code, list := impl.VerLook(old, next)
			changed, ok := impl.VerInsert(old, 1, "x", next[1:2])
			return fmt.Sprint(code, histShape(list), ok, changed)
		}
		askedAtOnce(t, impl.FlowPrint(old)+"and\n"+impl.FlowPrint(next), ask)
	}
}

// Any lines, at any places: nothing panics, and all is as the second reckoning says.
func TestChangesOfAnyLines(t *testing.T) {
	t.Parallel()
	r := rand.New(rand.NewSource(45))
	lets := 0
	for range 20000 {
		lines, more := linesOf(t, made(r)), linesOf(t, strings.SplitN(made(r)+"\n", "\n", 2)[1])
		if len(more) > 6 {
			more = more[:r.Intn(6)]
		}
		if r.Intn(3) > 0 {
			more = more[:min(len(more), r.Intn(2))]
		}
		from := r.Intn(len(lines)+3) - 1
		to := from + []int{0, 0, 1, 2, 3, -1}[r.Intn(6)]
		if _, ok := swapped(t, lines, from, to, []string{"x", "a", "b"}[r.Intn(3)], more); ok {
			lets++
		}
	}
	if lets < 500 {
		t.Errorf("%d were let", lets)
	}
}

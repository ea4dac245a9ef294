package tests

import (
	"regexp"
	"slices"
	"testing"

	"loop.example/dunlin/impl"
)

var innerBlock = regexp.MustCompile(`\([^()]*\)`)

// evenBy is chapter 23 once more: blocks are taken out, the inner ones first, until none is left.
func evenBy(lines []impl.FlowLine) bool {
	text := ""
	for _, l := range lines {
		switch l.Kind {
		case impl.FlowIf, impl.FlowPatch, impl.FlowWhile, impl.FlowBoth:
			text += "("
		case impl.FlowElse, impl.FlowAnd:
			text += "|"
		case impl.FlowEnd:
			text += ")"
		}
	}
	for innerBlock.MatchString(text) {
		text = innerBlock.ReplaceAllString(text, "")
	}
	return text == ""
}

// swapBy is chapter 23 once more: line by line, as they come.
func swapBy(lines []impl.FlowLine, from, to int, name string, more []impl.FlowLine) ([]impl.FlowLine, bool) {
	if impl.FlowCheck(lines).Code != 0 || from < 1 || from > len(lines) || to < from || to > len(lines) || !evenBy(lines[from:to]) || !evenBy(more) {
		return nil, false
	}
	for _, l := range slices.Concat(lines, more) {
		if l.Kind == impl.FlowPatch && l.Name == name {
			return nil, false
		}
	}
	var out []impl.FlowLine
	for place := range len(lines) + 1 {
		if place == from {
			out = append(out, impl.FlowLine{Kind: impl.FlowPatch, Name: name})
			out = append(out, more...)
			if to > from {
				out = append(out, impl.FlowLine{Kind: impl.FlowElse})
			}
		}
		if place == to {
			out = append(out, impl.FlowLine{Kind: impl.FlowEnd})
		}
		if place < len(lines) {
			out = append(out, lines[place])
		}
	}
	return out, impl.FlowCheck(out).Code == 0
}

// swapped asks that VerSwap, and VerInsert, if nothing is between, answer as the second reckoning; it tells whether they are let.
func swapped(t *testing.T, lines []impl.FlowLine, from, to int, name string, more []impl.FlowLine) ([]impl.FlowLine, bool) {
	t.Helper()
	want, let := swapBy(lines, from, to, name, more)
	if !let {
		want = nil
	}
	got, ok := impl.VerSwap(lines, from, to, name, more)
	if ok != let || !same(got, want) {
		t.Fatalf("%s%d to %d, %q, %v: %v, %v, asked for %v, %v", impl.FlowPrint(lines), from, to, name, more, ok, got, let, want)
	}
	if from == to {
		if put, ok := impl.VerInsert(lines, from, name, more); ok != let || !same(put, want) {
			t.Fatalf("%s%v put in at %d, %q: %v, %v", impl.FlowPrint(lines), more, from, name, ok, put)
		}
	}
	return got, ok
}

// keptInOrder asks that a workflow is right, and has the lines of another one in order, whole and in one row but for a patch's.
func keptInOrder(t *testing.T, lines, changed []impl.FlowLine, from, to int) {
	t.Helper()
	if f := impl.FlowCheck(changed); f.Code != 0 {
		t.Fatalf("%v: %+v", changed, f)
	}
	at := 0
	for _, l := range changed {
		if at < len(lines) && same([]impl.FlowLine{l}, lines[at:at+1]) {
			at++
		}
	}
	behind := len(changed) - (len(lines) - to)
	if at != len(lines) || !same(changed[:from], lines[:from]) || !same(changed[behind:], lines[to:]) || !same(changed[behind-1-(to-from):behind-1], lines[from:to]) {
		t.Fatalf("%s does not have all lines of\n%s", impl.FlowPrint(changed), impl.FlowPrint(lines))
	}
}

// doneAlike asks that a workflow does all that a history of another one says, and stands alike then.
func doneAlike(t *testing.T, lines, changed []impl.FlowLine, list []impl.HistEntry) {
	t.Helper()
	a, f := impl.HistReplay(lines, list)
	b, g := impl.HistReplay(changed, list)
	if f.Code != 0 || g.Code != 0 {
		t.Fatalf("%sof\n%s%s: %+v, %+v", impl.FlowPrint(changed), impl.FlowPrint(lines), rowsBy(list), g, f)
	}
	// Where its threads are, and which patches it passed, is another workflow's own.
	a.Threads, b.Threads, a.Marks, b.Marks = nil, nil, nil, nil
	if shape(a) != shape(b) {
		t.Fatalf("%sof\n%s%s: %s, asked for %s", impl.FlowPrint(changed), impl.FlowPrint(lines), rowsBy(list), shape(b), shape(a))
	}
}

// lookPath is a small history by what it is made of.
type lookPath struct {
	args []int
	haps []impl.RunHap
}

// lookBy is chapter 23 once more, by the model of runs; also at which place of the list it ended.
func lookBy(t *testing.T, old, next []impl.FlowLine) (int, string, int) {
	t.Helper()
	if impl.FlowCheck(old).Code != 0 || impl.FlowCheck(next).Code != 0 {
		return 2, "", 0
	}
	var list []lookPath
	heads := len(old[0].Args)
	for choice := range 1 << heads {
		p := lookPath{}
		for name := range heads {
			p.args = append(p.args, choice>>(heads-1-name)&1)
		}
		list = append(list, p)
	}
	for place := 0; place < len(list); place++ {
		if place == 120 {
			return 2, "", place
		}
		p := list[place]
		text := histBy(old, p.args, p.haps)
		if _, f := replayBy(next, hist(t, text)); f.Code != 0 {
			return 1, text, place
		}
		m := modelOf(old, p.args, nil)
		for _, h := range p.haps {
			m.happens(h)
		}
		for _, h := range m.mayHappen() {
			if len(list) <= 120 {
				list = append(list, lookPath{p.args, append(slices.Clone(p.haps), h)})
			}
		}
	}
	return 0, "", len(list)
}

// mayHappen is all that a look lets happen to a run.
func (m *model) mayHappen() []impl.RunHap {
	if m.rest.Stands != impl.RunLive {
		return nil
	}
	var list []impl.RunHap
	for _, a := range m.rest.Asks {
		if a.Name == "" {
			list = append(list, fired(a.Id))
		} else {
			list = append(list, done(a.Id, 0), done(a.Id, 1), broke(a.Id, 1))
		}
	}
	for _, thread := range m.tree.threads("") {
		if thread.Wait == impl.WaitGet {
			list = append(list, signal(m.steps[thread.At].Name, 0), signal(m.steps[thread.At].Name, 1))
		}
	}
	if !m.rest.Ending {
		list = append(list, cancel())
	}
	return list
}

// looks asks what a look tells: a code, and the history, "" for none.
func looks(t *testing.T, old, next []impl.FlowLine, code int, want string) {
	t.Helper()
	c, list := impl.VerLook(old, next)
	if c != code || histShape(list) != histShape(hist(t, want)) {
		t.Errorf("%sand\n%s%d, %s, asked for %d, %s", impl.FlowPrint(old), impl.FlowPrint(next), c, rowsBy(list), code, want)
	}
	if byHand, text, _ := lookBy(t, old, next); byHand != code || text != want {
		t.Errorf("%sand\n%s%d, %s by hand, asked for %d, %s", impl.FlowPrint(old), impl.FlowPrint(next), byHand, text, code, want)
	}
	if c == 1 {
		partsThere(t, old, next, list)
	}
}

// partsThere asks that a workflow does a history, and another one does not.
func partsThere(t *testing.T, old, next []impl.FlowLine, list []impl.HistEntry) {
	t.Helper()
	_, f := impl.HistReplay(old, list)
	_, g := impl.HistReplay(next, list)
	if f.Code != 0 || g.Code == 0 {
		t.Errorf("%sand\n%s%s: %+v, %+v", impl.FlowPrint(old), impl.FlowPrint(next), rowsBy(list), f, g)
	}
}

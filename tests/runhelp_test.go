package tests

import (
	"fmt"
	"slices"
	"strings"
	"testing"
	"unsafe"

	"loop.example/dunlin/impl"
)

func haps(list ...impl.RunHap) []impl.RunHap {
	return list
}

func done(id, num int) impl.RunHap {
	return impl.RunHap{Kind: impl.HapDone, Id: id, Num: num}
}

func broke(id, num int) impl.RunHap {
	return impl.RunHap{Kind: impl.HapBroke, Id: id, Num: num}
}

func fired(id int) impl.RunHap {
	return impl.RunHap{Kind: impl.HapFired, Id: id}
}

func signal(name string, num int) impl.RunHap {
	return impl.RunHap{Kind: impl.HapSignal, Name: name, Num: num}
}

func cancel() impl.RunHap {
	return impl.RunHap{Kind: impl.HapCancel}
}

// shape is the whole of a state; an empty list and none are the same in it.
func shape(s impl.RunState) string {
	return fmt.Sprintf("%+v", s)
}

func copyState(s impl.RunState) impl.RunState {
	s.Vars = slices.Clone(s.Vars)
	s.Threads = slices.Clone(s.Threads)
	s.Asks = copyAsks(s.Asks)
	s.Undo = copyAsks(s.Undo)
	s.Box = slices.Clone(s.Box)
	s.Marks = slices.Clone(s.Marks)
	s.Args = slices.Clone(s.Args)
	return s
}

func copyAsks(list []impl.RunAsk) []impl.RunAsk {
	list = slices.Clone(list)
	for i := range list {
		list[i].Args = slices.Clone(list[i].Args)
	}
	return list
}

// flow reads a workflow whose lines are parted by strokes.
func flow(t *testing.T, text string) []impl.FlowLine {
	t.Helper()
	lines := linesOf(t, strings.ReplaceAll(text, "|", "\n"))
	if f := impl.FlowCheck(lines); f.Code != 0 {
		t.Fatalf("%q: %+v", text, f)
	}
	return lines
}

// begun is a live run of a workflow, without marks.
func begun(t *testing.T, lines []impl.FlowLine, args ...int) impl.RunState {
	t.Helper()
	s, ok := impl.RunStart(lines, args, nil, true)
	if !ok || !impl.RunOk(lines, s) {
		t.Fatalf("%v, %+v", ok, s)
	}
	return s
}

// came is a live run behind what happened to it, each thing being let in.
func came(t *testing.T, lines []impl.FlowLine, s impl.RunState, list ...impl.RunHap) impl.RunState {
	t.Helper()
	for _, h := range list {
		next, code := impl.RunDo(lines, s, h, nil, true)
		if code != 0 || !impl.RunOk(lines, next) {
			t.Fatalf("%+v of %+v: code %d, %+v", h, s, code, next)
		}
		s = next
	}
	return s
}

// boards asks for a board whose lines are parted by strokes.
func boards(t *testing.T, lines []impl.FlowLine, s impl.RunState, want string) {
	t.Helper()
	got := strings.ReplaceAll(strings.TrimSuffix(impl.RunBoard(lines, s), "\n"), "\n", "|")
	if got != want {
		t.Errorf("board %q, asked for %q", got, want)
	}
}

// turnedDown asks that something is refused by a code, and that the state stays.
func turnedDown(t *testing.T, lines []impl.FlowLine, s impl.RunState, h impl.RunHap, code int) {
	t.Helper()
	got, c := impl.RunDo(lines, s, h, nil, true)
	want := shape(s)
	if code == 1 {
		want = shape(impl.RunState{})
	}
	if c != code || shape(got) != want {
		t.Errorf("%+v: code %d, asked for %d; %s, asked for %s", h, c, code, shape(got), want)
	}
}

// span is where a list lies, its spare room included.
type span struct {
	what     string
	from, to uintptr
}

func spanOf[T any](what string, list []T) []span {
	if cap(list) == 0 {
		return nil
	}
	var one T
	from := uintptr(unsafe.Pointer(unsafe.SliceData(list)))
	return []span{{what, from, from + uintptr(cap(list))*unsafe.Sizeof(one)}}
}

// spansOf also looks behind the ends of the lists of asks.
func spansOf(what string, s impl.RunState) []span {
	list := slices.Concat(spanOf(what+".Vars", s.Vars), spanOf(what+".Threads", s.Threads), spanOf(what+".Asks", s.Asks), spanOf(what+".Undo", s.Undo), spanOf(what+".Box", s.Box), spanOf(what+".Marks", s.Marks), spanOf(what+".Args", s.Args))
	for _, asks := range [][]impl.RunAsk{s.Asks, s.Undo} {
		for i, a := range asks[:cap(asks)] {
			list = append(list, spanOf(fmt.Sprintf("%s.%d.Args", what, i), a.Args)...)
		}
	}
	return list
}

func spansOfLines(what string, lines []impl.FlowLine) []span {
	list := spanOf(what, lines)
	for _, l := range lines {
		list = append(list, spanOf(what+".Args", l.Args)...)
	}
	return list
}

// lieApart asks that no two lists share memory.
func lieApart(t *testing.T, lists ...[]span) {
	t.Helper()
	all := slices.Concat(lists...)
	for i, a := range all {
		for _, b := range all[:i] {
			if a.from < b.to && b.from < a.to {
				t.Errorf("%s and %s share memory", a.what, b.what)
			}
		}
	}
}

// roomy is a list with room behind its end that is filled with a thing, so that it is seen if it is written over.
func roomy[T any](list []T, filler T) []T {
	out := append(slices.Clone(list), filler, filler, filler)
	return slices.Clip(out)[:len(list)]
}

func roomyState(s impl.RunState) impl.RunState {
	s = copyState(s)
	v := impl.RunVar{Name: "behind", Num: 77}
	a := impl.RunAsk{Id: 77, Key: "77", Name: "behind"}
	s.Vars, s.Box, s.Marks = roomy(s.Vars, v), roomy(s.Box, v), roomy(s.Marks, v)
	s.Threads = roomy(s.Threads, impl.RunThread{At: 77})
	for _, asks := range [][]impl.RunAsk{s.Asks, s.Undo} {
		for i := range asks {
			asks[i].Args = roomy(asks[i].Args, 77)
		}
	}
	s.Asks, s.Undo = roomy(s.Asks, a), roomy(s.Undo, a)
	s.Args = roomy(s.Args, 77)
	return s
}

// whole is a state with all that lies behind the ends of its lists.
func whole(s impl.RunState) string {
	s.Vars, s.Box, s.Marks = s.Vars[:cap(s.Vars)], s.Box[:cap(s.Box)], s.Marks[:cap(s.Marks)]
	s.Threads, s.Args = s.Threads[:cap(s.Threads)], s.Args[:cap(s.Args)]
	s.Asks, s.Undo = wholeAsks(s.Asks), wholeAsks(s.Undo)
	return shape(s)
}

func wholeAsks(list []impl.RunAsk) []impl.RunAsk {
	list = slices.Clone(list[:cap(list)])
	for i, a := range list {
		list[i].Args = a.Args[:cap(a.Args)]
	}
	return list
}

package tests

import (
	"slices"
	"strconv"
	"strings"
	"testing"

	"loop.example/dunlin/impl"
)

// change is one to a state, and whether it is ok behind that.
type change struct {
	what string
	ok   bool
	make func(s *impl.RunState)
}

func changed(t *testing.T, lines []impl.FlowLine, s impl.RunState, list []change) {
	t.Helper()
	if !impl.RunOk(lines, s) {
		t.Fatalf("not ok at first: %+v", s)
	}
	for _, c := range list {
		x := copyState(s)
		c.make(&x)
		if impl.RunOk(lines, x) != c.ok || (impl.RunBoard(lines, x) != "") != c.ok {
			t.Errorf("%s: ok is not %v: %+v", c.what, c.ok, x)
		}
		if !c.ok {
			turnedDown(t, lines, x, cancel(), 1)
		}
	}
}

func vars(words ...string) []impl.RunVar {
	var list []impl.RunVar
	for _, w := range words {
		name, num, _ := strings.Cut(w, " ")
		n, _ := strconv.Atoi(num)
		list = append(list, impl.RunVar{Name: name, Num: n})
	}
	return list
}

func manyVars(count int) []impl.RunVar {
	return slices.Repeat(vars("go 1"), count)
}

func someAsk(id int, key, name string, args ...int) impl.RunAsk {
	return impl.RunAsk{Id: id, Key: key, Name: name, Args: args}
}

// overall is what is asked of Vars, Marks, Box, Result, Args, Next and Undo, however a run stands.
func overall() []change {
	var list []change
	add := func(what string, ok bool, f func(s *impl.RunState)) {
		list = append(list, change{what, ok, f})
	}
	add("as it is", true, func(s *impl.RunState) {})
	names := []struct {
		ok   bool
		name string
	}{{true, "a"}, {true, "z9999999"}, {true, "undo"}, {false, "z99999999"}, {false, ""}, {false, "1"}, {false, "A"}, {false, "a-b"}, {false, "a b"}, {false, "é"}, {false, "a\xff"}}
	for _, c := range names {
		add("a var "+c.name, c.ok, func(s *impl.RunState) { s.Vars = []impl.RunVar{{Name: c.name}} })
		add("a mark "+c.name, c.ok, func(s *impl.RunState) { s.Marks = []impl.RunVar{{Name: c.name}} })
		add("in the box "+c.name, c.ok, func(s *impl.RunState) { s.Box = []impl.RunVar{{Name: c.name}} })
		add("undo "+c.name, c.ok, func(s *impl.RunState) { s.Undo = []impl.RunAsk{someAsk(1, "1", c.name, 1)} })
	}
	orders := []struct {
		ok   bool
		list []impl.RunVar
	}{{true, vars("a", "b", "c")}, {true, vars("a", "aa", "b")}, {true, vars("a", "a9", "aa")}, {false, vars("a", "a")}, {false, vars("b", "a")}, {false, vars("a", "c", "b")}, {false, vars("aa", "a")}, {false, vars("a", "b", "b")}}
	for _, c := range orders {
		add("vars in order", c.ok, func(s *impl.RunState) { s.Vars = c.list })
		add("marks in order", c.ok, func(s *impl.RunState) { s.Marks = c.list })
		add("the box in any order", true, func(s *impl.RunState) { s.Box = c.list })
	}
	for _, n := range []int{-10000, -9999, -1, 0, 1, 2, 9999, 10000, 1 << 40} {
		within := -9999 <= n && n <= 9999
		of := " of " + strconv.Itoa(n)
		add("a var"+of, within, func(s *impl.RunState) { s.Vars = []impl.RunVar{{Name: "a", Num: n}} })
		add("in the box"+of, within, func(s *impl.RunState) { s.Box = []impl.RunVar{{Name: "a", Num: n}} })
		add("a mark"+of, n == 0 || n == 1, func(s *impl.RunState) { s.Marks = []impl.RunVar{{Name: "a", Num: n}} })
		add("undo"+of, within, func(s *impl.RunState) { s.Undo = []impl.RunAsk{someAsk(1, "1", "b", n)} })
		add("undo by an id"+of, n == 1 || n == 2, func(s *impl.RunState) { s.Undo = []impl.RunAsk{someAsk(n, "1", "b", 1)} })
		add("a next"+of, false, func(s *impl.RunState) { s.Next = min(n, 0) })
	}
	add("a full box", true, func(s *impl.RunState) { s.Box = manyVars(impl.RunMaxBox) })
	add("a box too full", false, func(s *impl.RunState) { s.Box = manyVars(impl.RunMaxBox + 1) })
	add("the last next", true, func(s *impl.RunState) { s.Next = impl.RunMaxId + 1 })
	add("a next too far", false, func(s *impl.RunState) { s.Next = impl.RunMaxId + 2 })
	add("the most to be undone", true, func(s *impl.RunState) {
		s.Undo = slices.Repeat([]impl.RunAsk{someAsk(1, "1", "b", 1)}, impl.RunMaxUndo)
	})
	add("one more to be undone", false, func(s *impl.RunState) {
		s.Undo = slices.Repeat([]impl.RunAsk{someAsk(1, "1", "b", 1)}, impl.RunMaxUndo+1)
	})
	add("undo in another order than of ids", true, func(s *impl.RunState) {
		s.Next, s.Undo = 10, []impl.RunAsk{someAsk(8, "1", "b", 1), someAsk(2, "2", "b", 1), someAsk(2, "2", "b", 1)}
	})
	add("undo of an id that is to come", false, func(s *impl.RunState) { s.Next, s.Undo = 10, []impl.RunAsk{someAsk(10, "1", "b", 1)} })
	add("undo of the last id", true, func(s *impl.RunState) { s.Next, s.Undo = 10, []impl.RunAsk{someAsk(9, "1", "b", 1)} })
	add("undo with no number", false, func(s *impl.RunState) { s.Undo = []impl.RunAsk{someAsk(1, "1", "b")} })
	add("undo with two numbers", false, func(s *impl.RunState) { s.Undo = []impl.RunAsk{someAsk(1, "1", "b", 1, 2)} })
	for _, c := range keysAt(23) {
		add("undo by the key "+c.key, c.ok, func(s *impl.RunState) { s.Undo = []impl.RunAsk{someAsk(1, c.key, "b", 1)} })
	}
	for _, stands := range []int{-1, 5, 77} {
		add("stands as none", false, func(s *impl.RunState) { s.Stands = stands })
	}
	return list
}

type keyCase struct {
	key string
	ok  bool
}

func keysAt(most int) []keyCase {
	return []keyCase{{"", false}, {"0", true}, {"-", true}, {".", true}, {"01.9-", true}, {strings.Repeat("5", most), true}, {strings.Repeat("5", most+1), false}, {"a", false}, {"1 1", false}, {"1a1", false}, {"1/", false}, {"1:", false}, {"1,", false}, {"1\x00", false}, {"é", false}, {"1\xff1", false}}
}

const plainFlow = "workflow w|do a x 1 2|sleep 3|get b go|get c go for 4|return a"

// standing so, a run of plainFlow has been asked for one thing at least.
func liveAt(wait, at, ask int, asks ...impl.RunAsk) impl.RunState {
	return impl.RunState{Next: 7, Threads: []impl.RunThread{{At: at, Wait: wait, Ask: ask, Made: 1}}, Asks: asks}
}

func TestStatesOverall(t *testing.T) {
	lines := flow(t, plainFlow)
	bound := []impl.RunState{
		liveAt(impl.WaitGet, 2, 0),
		{Next: 7, Stands: impl.RunDone},
		{Next: 7, Stands: impl.RunFailed},
		{Next: 7, Stands: impl.RunAnew},
		{Next: 7, Stands: impl.RunStopped},
		{Next: 7, Ending: true, Asks: []impl.RunAsk{someAsk(6, "3-", "b", 1)}},
	}
	for _, s := range bound {
		changed(t, lines, s, overall())
	}
	changed(t, lines, impl.RunState{Next: 1, Stands: impl.RunDone}, []change{
		{"the first next", true, func(s *impl.RunState) {}},
		{"next 0", false, func(s *impl.RunState) { s.Next = 0 }},
		{"undo of what was never asked for", false, func(s *impl.RunState) { s.Undo = []impl.RunAsk{someAsk(1, "1", "b", 1)} }},
	})
	if impl.RunOk(lines, impl.RunState{}) || impl.RunOk(nil, impl.RunState{Next: 1, Stands: impl.RunDone}) {
		t.Error("nothing is ok")
	}
}

func TestStatesThatStand(t *testing.T) {
	lines := flow(t, plainFlow)
	for stands := impl.RunDone; stands <= impl.RunStopped; stands++ {
		anew := stands == impl.RunAnew
		changed(t, lines, impl.RunState{Next: 7, Stands: stands}, []change{
			{"the least result", true, func(s *impl.RunState) { s.Result = -9999 }},
			{"the greatest result", true, func(s *impl.RunState) { s.Result = 9999 }},
			{"a result too small", false, func(s *impl.RunState) { s.Result = -10000 }},
			{"a result too great", false, func(s *impl.RunState) { s.Result = 10000 }},
			{"args", anew, func(s *impl.RunState) { s.Args = []int{1} }},
			{"the most args", anew, func(s *impl.RunState) { s.Args = []int{1, -9999, 9999} }},
			{"too many args", false, func(s *impl.RunState) { s.Args = []int{1, 2, 3, 4} }},
			{"an arg too small", false, func(s *impl.RunState) { s.Args = []int{1, -10000} }},
			{"an arg too great", false, func(s *impl.RunState) { s.Args = []int{10000} }},
			{"a thread", false, func(s *impl.RunState) { s.Threads = []impl.RunThread{{At: 2, Wait: impl.WaitGet}} }},
			{"an ask", false, func(s *impl.RunState) { s.Asks = []impl.RunAsk{someAsk(1, "1", "x", 1)} }},
			{"ending", false, func(s *impl.RunState) { s.Ending = true }},
			{"ending, with an ask", false, func(s *impl.RunState) { s.Ending, s.Asks = true, []impl.RunAsk{someAsk(1, "1", "x", 1)} }},
		})
	}
}

func TestStatesThatEnd(t *testing.T) {
	lines := flow(t, plainFlow)
	s := impl.RunState{Next: 7, Ending: true, Result: -9003, Asks: []impl.RunAsk{someAsk(6, "3-", "b", 1)}}
	list := []change{
		{"the least result", true, func(s *impl.RunState) { s.Result = -9999 }},
		{"the greatest result", true, func(s *impl.RunState) { s.Result = 9999 }},
		{"a result too small", false, func(s *impl.RunState) { s.Result = -10000 }},
		{"a result too great", false, func(s *impl.RunState) { s.Result = 10000 }},
		{"args", false, func(s *impl.RunState) { s.Args = []int{1} }},
		{"a thread", false, func(s *impl.RunState) { s.Threads = []impl.RunThread{{At: 2, Wait: impl.WaitGet}} }},
		{"no ask", false, func(s *impl.RunState) { s.Asks = nil }},
		{"two asks", false, func(s *impl.RunState) { s.Asks = []impl.RunAsk{someAsk(5, "2-", "b", 1), someAsk(6, "3-", "b", 1)} }},
		{"a time", false, func(s *impl.RunState) { s.Asks[0].Name = "" }},
		{"no name", false, func(s *impl.RunState) { s.Asks[0].Name = "B" }},
		{"no args of the ask", true, func(s *impl.RunState) { s.Asks[0].Args = nil }},
		{"the most args of the ask", true, func(s *impl.RunState) { s.Asks[0].Args = []int{1, -9999, 9999} }},
		{"too many args of the ask", false, func(s *impl.RunState) { s.Asks[0].Args = []int{1, 2, 3, 4} }},
		{"an arg of the ask too great", false, func(s *impl.RunState) { s.Asks[0].Args = []int{10000} }},
		{"an arg of the ask too small", false, func(s *impl.RunState) { s.Asks[0].Args = []int{-10000} }},
		{"an id to come", false, func(s *impl.RunState) { s.Asks[0].Id = 7 }},
		{"id 0", false, func(s *impl.RunState) { s.Asks[0].Id = 0 }},
		{"an id below 0", false, func(s *impl.RunState) { s.Asks[0].Id = -1 }},
		{"the first id", true, func(s *impl.RunState) { s.Asks[0].Id = 1 }},
	}
	for _, c := range keysAt(24) {
		list = append(list, change{"the key " + c.key, c.ok, func(s *impl.RunState) { s.Asks[0].Key = c.key }})
	}
	changed(t, lines, s, list)
}

func TestStatesByWhatIsWaitedFor(t *testing.T) {
	lines := flow(t, plainFlow)
	work, time := someAsk(5, "1", "x", 1, 2), someAsk(5, "1", "", 3)
	states := []struct {
		s     impl.RunState
		asked int // how many args the ask has, or -1
	}{{liveAt(impl.WaitDo, 0, 5, work), 2}, {liveAt(impl.WaitSleep, 1, 5, time), 1}, {liveAt(impl.WaitGet, 2, 0), -1}, {liveAt(impl.WaitGet, 3, 5, time), 1}}
	for i, c := range states {
		var list []change
		for wait := -1; wait <= 6; wait++ {
			list = append(list, change{"another wait", wait == c.s.Threads[0].Wait, func(s *impl.RunState) { s.Threads[0].Wait = wait }})
		}
		for at := -1; at <= 6; at++ {
			fits := at == i
			list = append(list, change{"another step", fits, func(s *impl.RunState) { s.Threads[0].At = at }})
		}
		list = append(list, []change{
			{"a far step", false, func(s *impl.RunState) { s.Threads[0].At = 1 << 40 }},
			{"a result", false, func(s *impl.RunState) { s.Result = 1 }},
			{"args", false, func(s *impl.RunState) { s.Args = []int{1} }},
			{"no threads", false, func(s *impl.RunState) { s.Threads, s.Asks = nil, nil }},
			{"a thread twice", false, func(s *impl.RunState) { s.Threads = append(s.Threads, s.Threads[0]) }},
			{"a path", false, func(s *impl.RunState) { s.Threads[0].Path = "0" }},
			{"none made", true, func(s *impl.RunState) { s.Threads[0].Made = 0 }},
			{"all made", true, func(s *impl.RunState) { s.Threads[0].Made = 6 }},
			{"more made than there are", false, func(s *impl.RunState) { s.Threads[0].Made = 7 }},
			{"less than none made", false, func(s *impl.RunState) { s.Threads[0].Made = -1 }},
			{"another ask", false, func(s *impl.RunState) { s.Threads[0].Ask = 4 }},
			{"no ask", c.asked < 0, func(s *impl.RunState) { s.Threads[0].Ask = 0 }},
			{"none that is asked for", c.asked < 0, func(s *impl.RunState) { s.Asks = nil }},
			{"an ask of nobody", false, func(s *impl.RunState) { s.Asks = append(s.Asks, someAsk(6, "1", "x", 1, 2)) }},
			{"a time of nobody", false, func(s *impl.RunState) { s.Asks = append([]impl.RunAsk{someAsk(1, "1", "", 1)}, s.Asks...) }},
		}...)
		if c.asked >= 0 {
			list = append(list, askChanges(c.asked)...)
		}
		changed(t, lines, c.s, list)
	}
}

func askChanges(args int) []change {
	list := []change{
		{"another name", false, func(s *impl.RunState) { s.Asks[0].Name = "y" }},
		{"a name for no name, or none for one", false, func(s *impl.RunState) {
			s.Asks[0].Name = map[bool]string{true: "x", false: ""}[s.Asks[0].Name == ""]
		}},
		{"no name", false, func(s *impl.RunState) { s.Asks[0].Name = "X" }},
		{"the first id", true, func(s *impl.RunState) { s.Asks[0].Id, s.Threads[0].Ask = 1, 1 }},
		{"the last id", true, func(s *impl.RunState) { s.Asks[0].Id, s.Threads[0].Ask = 6, 6 }},
		{"an id to come", false, func(s *impl.RunState) { s.Asks[0].Id, s.Threads[0].Ask = 7, 7 }},
		{"an id below 1", false, func(s *impl.RunState) { s.Asks[0].Id, s.Threads[0].Ask = 0, 0 }},
		{"the ask twice", false, func(s *impl.RunState) { s.Asks = append(s.Asks, s.Asks[0]) }},
		{"the least number", true, func(s *impl.RunState) { s.Asks[0].Args[0] = -9999 }},
		{"the greatest number", true, func(s *impl.RunState) { s.Asks[0].Args[0] = 9999 }},
		{"a number too small", false, func(s *impl.RunState) { s.Asks[0].Args[0] = -10000 }},
		{"a number too great", false, func(s *impl.RunState) { s.Asks[0].Args[0] = 10000 }},
	}
	for count := range impl.FlowMaxArgs + 2 {
		list = append(list, change{"so many args", count == args, func(s *impl.RunState) { s.Asks[0].Args = make([]int, count) }})
	}
	for _, c := range keysAt(23) {
		list = append(list, change{"the key " + c.key, c.ok, func(s *impl.RunState) { s.Asks[0].Key = c.key }})
	}
	return list
}

// forks in forks: 0 fork, 1 do, 2 fork, 3 do, 4 join, 5 do, 6 join, 7 join, 8 do, 9 join, 10 do, 11 fork, 12 do, 13 join, 14 join, 15 return.
const deepFlow = "workflow w|both|do a x|both|do b x|and|do c x|end|and|do d x|end|do e x|both|do f x|and|end|return 1"

func atWork(path string, at, ask int) impl.RunThread {
	return impl.RunThread{Path: path, At: at, Wait: impl.WaitDo, Ask: ask}
}

func atJoin(path string, at int) impl.RunThread {
	return impl.RunThread{Path: path, At: at, Wait: impl.WaitJoin}
}

// forked is a state with these threads, each that works having its ask.
func forked(threads ...impl.RunThread) impl.RunState {
	s := impl.RunState{Next: 50, Threads: threads}
	for _, t := range threads {
		if t.Ask != 0 {
			s.Asks = append(s.Asks, someAsk(t.Ask, "1", "x"))
		}
	}
	slices.SortFunc(s.Asks, func(a, b impl.RunAsk) int { return a.Id - b.Id })
	return s
}

func TestStatesOfForks(t *testing.T) {
	lines := flow(t, deepFlow)
	for i, c := range []struct {
		ok bool
		s  impl.RunState
	}{
		{true, forked(atJoin("", 0), atWork("0", 1, 1), atWork("1", 8, 2))},
		{true, forked(atJoin("", 0), atJoin("0", 2), atWork("00", 3, 1), atWork("01", 5, 2), atWork("1", 8, 3))},
		{true, forked(atJoin("", 0), atJoin("0", 2), atWork("00", 3, 3), atWork("01", 5, 2), atWork("1", 8, 1))},
		{true, forked(atJoin("", 0), atJoin("0", 2), atJoin("00", 4), atWork("01", 5, 2), atJoin("1", 9))},
		{true, forked(atJoin("", 0), atJoin("0", 2), atWork("00", 3, 2), atJoin("01", 6), atJoin("1", 9))},
		{true, forked(atJoin("", 0), atJoin("0", 7), atWork("1", 8, 2))},
		{true, forked(atJoin("", 0), atWork("0", 1, 2), atJoin("1", 9))},
		{true, forked(atWork("", 10, 1))},
		{true, forked(atJoin("", 11), atWork("0", 12, 1), atJoin("1", 14))},
		// Both wait for each other.
		{false, forked(atJoin("", 0), atJoin("0", 7), atJoin("1", 9))},
		{false, forked(atJoin("", 0), atJoin("0", 2), atJoin("00", 4), atJoin("01", 6), atWork("1", 8, 1))},
		{false, forked(atJoin("", 11), atJoin("0", 13), atJoin("1", 14))},
		// Some are not there.
		{false, forked(atJoin("", 0))},
		{false, forked(atJoin("", 0), atWork("0", 1, 1))},
		{false, forked(atJoin("", 0), atWork("1", 8, 1))},
		{false, forked(atWork("0", 1, 1), atWork("1", 8, 2))},
		{false, forked(atJoin("", 0), atJoin("0", 2), atWork("1", 8, 2))},
		{false, forked(atJoin("", 0), atJoin("0", 2), atWork("00", 3, 1), atWork("1", 8, 2))},
		{false, forked(atJoin("", 0), atWork("00", 3, 1), atWork("01", 5, 2), atWork("1", 8, 3))},
		// One is in no part, in that of another fork, in the other one, or in an inner or an outer one.
		{false, forked(atWork("", 1, 1))},
		{false, forked(atWork("", 8, 1))},
		{false, forked(atJoin("", 0), atWork("0", 10, 1), atWork("1", 8, 2))},
		{false, forked(atJoin("", 0), atWork("0", 12, 1), atWork("1", 8, 2))},
		{false, forked(atJoin("", 0), atWork("0", 1, 1), atWork("1", 12, 2))},
		{false, forked(atJoin("", 0), atWork("0", 8, 1), atWork("1", 8, 2))},
		{false, forked(atJoin("", 0), atWork("0", 8, 1), atWork("1", 1, 2))},
		{false, forked(atJoin("", 0), atWork("0", 1, 1), atWork("1", 1, 2))},
		{false, forked(atJoin("", 0), atWork("0", 3, 1), atWork("1", 8, 2))},
		{false, forked(atJoin("", 0), atWork("0", 5, 1), atWork("1", 8, 2))},
		{false, forked(atJoin("", 0), atJoin("0", 4), atWork("1", 8, 2))},
		{false, forked(atJoin("", 0), atJoin("0", 9), atWork("1", 8, 2))},
		{false, forked(atJoin("", 0), atWork("0", 1, 1), atJoin("1", 7))},
		{false, forked(atJoin("", 0), atJoin("0", 2), atWork("00", 1, 1), atWork("01", 5, 2), atWork("1", 8, 3))},
		{false, forked(atJoin("", 0), atJoin("0", 2), atJoin("00", 7), atWork("01", 5, 2), atWork("1", 8, 3))},
		{false, forked(atJoin("", 0), atJoin("0", 2), atWork("00", 5, 1), atWork("01", 3, 2), atWork("1", 8, 3))},
		{false, forked(atJoin("", 11), atWork("0", 1, 1), atWork("1", 8, 2))},
		{false, forked(atJoin("", 7), atWork("0", 1, 1), atWork("1", 8, 2))},
		{false, forked(atJoin("", 2), atWork("0", 3, 1), atWork("1", 5, 2))},
		{false, forked(atJoin("", 9))},
		// One has a thread below it, but does not wait at a fork; a fork's threads stand below the wrong one.
		{false, forked(atJoin("", 0), atWork("0", 1, 1), atWork("00", 3, 2), atWork("01", 5, 3), atWork("1", 8, 4))},
		{false, forked(atJoin("", 0), atWork("0", 1, 1), atWork("1", 8, 2), atWork("10", 3, 3), atWork("11", 5, 4))},
		{false, forked(atJoin("", 0), atJoin("0", 7), atWork("00", 3, 2), atWork("01", 5, 3), atWork("1", 8, 4))},
		// The order, a path twice, a path that is none.
		{false, forked(atJoin("", 0), atWork("1", 8, 1), atWork("0", 1, 2))},
		{false, forked(atWork("0", 1, 1), atJoin("", 0), atWork("1", 8, 2))},
		{false, forked(atJoin("", 0), atWork("0", 1, 1), atWork("0", 1, 3), atWork("1", 8, 2))},
		{false, forked(atJoin("", 0), atWork("0", 1, 1), atWork("1", 8, 2), atWork("2", 8, 3))},
		{false, forked(atJoin("", 0), atWork("0", 1, 1), atWork("2", 8, 2))},
		{false, forked(atJoin("", 0), atWork("/", 1, 1), atWork("0", 1, 2), atWork("1", 8, 3))},
		{false, forked(atJoin("", 0), atWork("0", 1, 1), atWork("000000", 3, 3), atWork("000001", 3, 4), atWork("1", 8, 2))},
		// Two have one ask.
		{false, impl.RunState{Next: 50, Threads: []impl.RunThread{atJoin("", 0), atWork("0", 1, 1), atWork("1", 8, 1)}, Asks: []impl.RunAsk{someAsk(1, "1", "x")}}},
		{false, impl.RunState{Next: 50, Threads: []impl.RunThread{atJoin("", 0), atWork("0", 1, 1), atWork("1", 8, 1)}, Asks: []impl.RunAsk{someAsk(1, "1", "x"), someAsk(2, "1", "x")}}},
		// Asks are not in order.
		{false, impl.RunState{Next: 50, Threads: []impl.RunThread{atJoin("", 0), atWork("0", 1, 1), atWork("1", 8, 2)}, Asks: []impl.RunAsk{someAsk(2, "1", "x"), someAsk(1, "1", "x")}}},
	} {
		if impl.RunOk(lines, c.s) != c.ok {
			t.Errorf("case %d: not %v: %+v", i, c.ok, c.s.Threads)
		}
		if !c.ok {
			turnedDown(t, lines, c.s, cancel(), 1)
		}
	}
	changed(t, lines, forked(atJoin("", 0), atWork("0", 1, 1), atJoin("1", 9)), []change{
		{"a fork that waits for an ask", false, func(s *impl.RunState) { s.Threads[0].Ask = 1 }},
		{"a fork that has an ask", false, func(s *impl.RunState) { s.Threads[0].Ask = 2; s.Asks = append(s.Asks, someAsk(2, "1", "x")) }},
		{"a join that waits for an ask", false, func(s *impl.RunState) { s.Threads[2].Ask = 7 }},
		{"a fork that does not wait", false, func(s *impl.RunState) { s.Threads[0].Wait = 0 }},
		{"a join that does not wait", false, func(s *impl.RunState) { s.Threads[2].Wait = 0 }},
		{"the most made in a part", true, func(s *impl.RunState) { s.Threads[2].Made = 49 }},
		{"too many made in a part", false, func(s *impl.RunState) { s.Threads[2].Made = 50 }},
		{"less than none made in a part", false, func(s *impl.RunState) { s.Threads[1].Made = -1 }},
	})
}

// forksAtOnce are so many forks in each other, as even as may be, that all wait at once.
func forksAtOnce(count int) string {
	if count == 0 {
		return "sleep 2"
	}
	first := count / 2
	return "both|" + forksAtOnce(first) + "|and|" + forksAtOnce(count-1-first) + "|end"
}

func TestStatesOfManyThreads(t *testing.T) {
	for count := range 10 {
		lines := flow(t, "workflow w|"+forksAtOnce(count)+"|return 1")
		s, ok := impl.RunStart(lines, nil, nil, true)
		if !ok || !impl.RunOk(lines, s) {
			t.Fatalf("%d forks: %v, %+v", count, ok, s)
		}
		if 2*count+1 <= impl.RunMaxThreads {
			if len(s.Threads) != 2*count+1 || len(s.Asks) != count+1 || s.Stands != impl.RunLive {
				t.Errorf("%d forks: %d threads, %d asks", count, len(s.Threads), len(s.Asks))
			}
			continue
		}
		if s.Stands != impl.RunFailed || s.Result != impl.RunBusy || len(s.Threads) != 0 || len(s.Asks) != 0 {
			t.Errorf("%d forks: %+v", count, s)
		}
	}
}

// A state with more threads than there may be is not ok, though each of them fits.
func TestStatesOfTooManyThreads(t *testing.T) {
	for _, count := range []int{7, 8} {
		lines := flow(t, "workflow w|"+forksAtOnce(count)+"|return 1")
		steps, _ := impl.FlowMake(lines)
		s := impl.RunState{Next: 50}
		spread(steps, &s, "", 0)
		if len(s.Threads) != 2*count+1 || impl.RunOk(lines, s) != (count == 7) {
			t.Errorf("%d threads, ok: %v", len(s.Threads), impl.RunOk(lines, s))
		}
	}
}

// spread puts a thread at a step, and, if that is a fork, all those below it.
func spread(steps []impl.FlowStep, s *impl.RunState, path string, at int) {
	if steps[at].Code == impl.StepFork {
		s.Threads = append(s.Threads, impl.RunThread{Path: path, At: at, Wait: impl.WaitJoin})
		spread(steps, s, path+"0", steps[at].A)
		spread(steps, s, path+"1", steps[at].B)
		return
	}
	id := len(s.Asks) + 1
	s.Threads = append(s.Threads, impl.RunThread{Path: path, At: at, Wait: impl.WaitSleep, Ask: id})
	s.Asks = append(s.Asks, someAsk(id, strconv.Itoa(id), "", 2))
}

// A state is one of its own workflow, not of another one.
func TestStatesOfOtherWorkflows(t *testing.T) {
	lines := flow(t, plainFlow)
	s := begun(t, lines)
	for i, c := range []struct {
		ok   bool
		text string
	}{{true, plainFlow}, {true, "workflow v n|do b x n 7|return b"}, {false, "workflow w|do a x 1|return a"}, {false, "workflow w|do a y 1 2|return a"}, {false, "workflow w|let a is 1|do a x 1 2|return a"}, {false, deepFlow}} {
		if impl.RunOk(flow(t, c.text), s) != c.ok {
			t.Errorf("case %d: not %v", i, c.ok)
		}
	}
	for _, text := range []string{"", "workflow w", "workflow w\ndo a x 1 2", "workflow w\ndo a x 1 2\nreturn b", "workflow w\ndo a x 1 2\nreturn 1\nreturn 1"} {
		wrong := linesOf(t, text)
		if impl.RunOk(wrong, s) || impl.RunBoard(wrong, s) != "" {
			t.Errorf("%q: ok", text)
		}
		if x, ok := impl.RunStart(wrong, nil, nil, true); ok || shape(x) != shape(impl.RunState{}) {
			t.Errorf("%q: begun: %+v", text, x)
		}
		turnedDown(t, wrong, s, done(1, 1), 1)
	}
}

package tests

import (
	"math"
	"math/rand"
	"slices"
	"strconv"
	"testing"

	"loop.example/dunlin/impl"
)

func TestAnswers(t *testing.T) {
	for _, c := range []struct {
		ask    impl.RunAsk
		answer int
	}{
		{someAsk(0, "", ""), -2}, {someAsk(0, "0", "x"), 3}, {someAsk(0, "0.1", "book", 1), 4}, {someAsk(0, "1.1", "send", 1), -1},
		{someAsk(0, "0", "x", 0), 0}, {someAsk(0, "0", "x", -1), -1}, {someAsk(0, "0", "x", 9972), -1}, {someAsk(0, "0", "x", 9973), 0}, {someAsk(0, "0", "x", -9973), 0},
		{someAsk(0, "0", "x", 1, 2, 3), 2}, {someAsk(0, "0", "x", 3, 2, 1), 4}, {someAsk(0, "01", "2"), -2}, {someAsk(0, "0", "12"), -2},
		{someAsk(0, "9999-", "zzzzzzzz", 9999, -9999, 5), 2}, {someAsk(0, "\xff", "\xfe", math.MinInt64, math.MaxInt64), 2},
		{someAsk(0, "", "a"), 4}, {someAsk(0, "a", ""), 4}, {someAsk(0, "0", "", 5), 0}, {someAsk(0, "0", "x", 1, 2, 3, 4, 5, 6, 7), 2},
	} {
		for _, id := range []int{0, 1, -7, 9999} {
			c.ask.Id = id
			if got := impl.RunAnswer(c.ask); got != c.answer {
				t.Errorf("%+v: %d, asked for %d", c.ask, got, c.answer)
			}
		}
	}
}

// The world's answer is in -2..4, hangs on the ask alone, and is each of them at times.
func TestAnswersOfAnyAsks(t *testing.T) {
	r := rand.New(rand.NewSource(1))
	seen := map[int]int{}
	for range 5000 {
		a := someAsk(r.Intn(9999), randomBytes(r), randomBytes(r))
		for range r.Intn(5) {
			a.Args = append(a.Args, int(r.Uint64()))
		}
		n := impl.RunAnswer(a)
		seen[n]++
		b := someAsk(a.Id+1, a.Key, a.Name, roomy(a.Args, 77)...)
		if n < -2 || n > 4 || impl.RunAnswer(b) != n {
			t.Fatalf("%+v: %d", a, n)
		}
	}
	if len(seen) != 7 {
		t.Errorf("%v", seen)
	}
}

func randomBytes(r *rand.Rand) string {
	b := make([]byte, r.Intn(9))
	r.Read(b)
	return string(b)
}

func TestPlay(t *testing.T) {
	lines := flow(t, tripFlow)
	s, list := impl.RunPlay(lines, []int{1}, vars("go 3", "x 4"), nil, 100)
	answers := haps(done(1, impl.RunAnswer(someAsk(1, "0", "book", 1))), done(2, impl.RunAnswer(someAsk(2, "0.1", "book", 1))), done(3, impl.RunAnswer(someAsk(3, "1.1", "send", 1))), done(4, impl.RunAnswer(someAsk(4, "2", "work", 0))))
	if want := append(haps(signal("go", 3), signal("x", 4)), answers...); !slices.Equal(list, want) {
		t.Errorf("%v, asked for %v", list, want)
	}
	if s.Stands != impl.RunDone || s.Result != answers[1].Num || !slices.Equal(s.Box, vars("x 4")) || !slices.Equal(s.Marks, vars("quick 1")) {
		t.Errorf("%+v", s)
	}
	folded, ok := impl.RunFold(lines, []int{1}, list)
	if !ok || shape(folded) != shape(s) {
		t.Errorf("%v, %+v", ok, folded)
	}
}

// picked are the Ids of the asks that were answered, in order.
func picked(t *testing.T, lines []impl.FlowLine, picks []int, most int) []int {
	t.Helper()
	s, list := impl.RunPlay(lines, nil, nil, picks, most)
	if !impl.RunOk(lines, s) {
		t.Errorf("%v: %+v", picks, s)
	}
	var ids []int
	for _, h := range list {
		ids = append(ids, h.Id)
	}
	return ids
}

func TestPicks(t *testing.T) {
	lines := flow(t, "workflow w|both|both|do a x|and|sleep 1|end|and|both|do b x|and|sleep 2|end|end|return 1")
	for _, c := range []struct {
		picks []int
		ids   []int
	}{
		{nil, []int{1, 2, 3, 4}}, {[]int{}, []int{1, 2, 3, 4}}, {[]int{0}, []int{1, 2, 3, 4}}, {[]int{3}, []int{4, 1, 3, 2}}, {[]int{1}, []int{2, 3, 4, 1}},
		{[]int{1, 0}, []int{2, 1, 4, 3}}, {[]int{0, 1}, []int{1, 3, 2, 4}}, {[]int{-1}, []int{4, 3, 2, 1}}, {[]int{2, 2, 1}, []int{3, 4, 2, 1}},
		{[]int{4, 3, 2, 1}, []int{1, 2, 3, 4}}, {[]int{-5, -4}, []int{4, 3, 2, 1}}, {[]int{math.MaxInt64, math.MinInt64}, []int{4, 2, 3, 1}},
		{[]int{1, 2, 0, 0, 77}, []int{2, 4, 1, 3}},
	} {
		if got := picked(t, lines, c.picks, 10); !slices.Equal(got, c.ids) {
			t.Errorf("%v: %v, asked for %v", c.picks, got, c.ids)
		}
		for most := range 4 {
			if got := picked(t, lines, c.picks, most); !slices.Equal(got, c.ids[:most]) {
				t.Errorf("%v, at most %d: %v", c.picks, most, got)
			}
		}
	}
	for _, most := range []int{0, -1, math.MinInt64} {
		if got := picked(t, lines, nil, most); len(got) != 0 {
			t.Errorf("at most %d: %v", most, got)
		}
	}
}

func TestPlayAtItsLimit(t *testing.T) {
	for _, rounds := range []int{199, 200, 201, 300} {
		lines := flow(t, "workflow w|let i is 0|while i less "+strconv.Itoa(rounds)+"|do a x|let i add i 1|end|return i")
		for _, most := range []int{198, 199, 200, 201, 10000, math.MaxInt64} {
			s, list := impl.RunPlay(lines, nil, nil, nil, most)
			answered := min(rounds, most, impl.RunMaxPlay)
			over := answered == rounds
			if len(list) != answered || (s.Stands == impl.RunDone) != over || s.Next != min(answered+2, rounds+1) {
				t.Errorf("%d asks, at most %d: %d answers, %d %d", rounds, most, len(list), s.Stands, s.Next)
			}
		}
	}
	// Signals do not count as answers.
	lines := flow(t, "workflow w|let i is 0|while i less 200|do a x|let i add i 1|end|return i")
	s, list := impl.RunPlay(lines, nil, manyVars(30), nil, 1000)
	if len(list) != impl.RunMaxBox+200 || s.Stands != impl.RunDone || len(s.Box) != impl.RunMaxBox {
		t.Errorf("%d, %+v", len(list), s)
	}
}

// A signal that has a code is left out, and those behind it come all the same.
func TestPlayedSignals(t *testing.T) {
	lines := flow(t, "workflow w|get a go|get b go for 3|do c x a b|return c")
	signals := []impl.RunVar{{Name: "go", Num: 10000}, {Name: "", Num: 1}, {Name: "go", Num: 1}, {Name: "Go", Num: 2}, {Name: "go", Num: -10000}, {Name: "go", Num: 2}, {Name: "x", Num: 3}}
	s, list := impl.RunPlay(lines, nil, signals, nil, 0)
	if !slices.Equal(list, haps(signal("go", 1), signal("go", 2), signal("x", 3))) || !slices.Equal(s.Box, vars("x 3")) || len(s.Asks) != 1 || s.Asks[0].Id != 2 {
		t.Errorf("%v, %+v", list, s)
	}
	lines = flow(t, "workflow w|get a go|return a")
	s, list = impl.RunPlay(lines, nil, vars("x 1", "go 2", "go 3", "x 4"), nil, 5)
	if !slices.Equal(list, haps(signal("x", 1), signal("go", 2))) || s.Result != 2 || !slices.Equal(s.Box, vars("x 1")) {
		t.Errorf("%v, %+v", list, s)
	}
	// What waits for a signal for ever is played as far as it goes.
	s, list = impl.RunPlay(lines, nil, nil, nil, 5)
	if len(list) != 0 || s.Stands != impl.RunLive || len(s.Threads) != 1 {
		t.Errorf("%v, %+v", list, s)
	}
}

// What is to be undone is answered, too.
func TestPlayedUndo(t *testing.T) {
	lines := flow(t, "workflow w|do a x undo y|do b x undo z|fail 5")
	s, list := impl.RunPlay(lines, nil, nil, nil, 10)
	a, b := impl.RunAnswer(someAsk(1, "0", "x")), impl.RunAnswer(someAsk(2, "1", "x"))
	want := haps(done(1, a), done(2, b), done(3, impl.RunAnswer(someAsk(3, "1-", "z", b))), done(4, impl.RunAnswer(someAsk(4, "0-", "y", a))))
	if !slices.Equal(list, want) || s.Stands != impl.RunFailed || s.Result != 5 || len(s.Undo) != 0 {
		t.Errorf("%v, %+v", list, s)
	}
	s, list = impl.RunPlay(lines, nil, nil, nil, 3)
	if !slices.Equal(list, want[:3]) || !s.Ending || s.Asks[0].Key != "0-" {
		t.Errorf("%v, %+v", list, s)
	}
	// What was taken out of Undo is nowhere behind its end.
	for most := range 5 {
		p, list := impl.RunPlay(lines, nil, nil, nil, most)
		f, _ := impl.RunFold(lines, nil, list)
		lieApart(t, spansOf("played", p), spanOf("haps", list), spansOf("folded", f))
	}
}

// neverBegins is a workflow with args by which no run begins.
type neverBegins struct {
	lines []impl.FlowLine
	args  []int
}

func cannotBegin(t *testing.T) []neverBegins {
	t.Helper()
	right := flow(t, "workflow w a|do b x a|return b")
	wrong := linesOf(t, "workflow w a\ndo b x a")
	return []neverBegins{{right, nil}, {right, []int{1, 2}}, {right, []int{10000}}, {right, []int{-10000}}, {wrong, []int{1}}, {nil, nil}}
}

func TestWhatCannotBePlayed(t *testing.T) {
	for _, c := range cannotBegin(t) {
		s, list := impl.RunPlay(c.lines, c.args, vars("go 1"), nil, 10)
		f, ok := impl.RunFold(c.lines, c.args, nil)
		if shape(s) != shape(impl.RunState{}) || len(list) != 0 || shape(f) != shape(impl.RunState{}) || ok {
			t.Errorf("%v: %+v, %v, %+v", c.args, s, list, f)
		}
	}
}

func TestFold(t *testing.T) {
	lines := flow(t, "workflow w a|let b is 0|patch p|do b x a undo y|end|sleep 4|return b")
	s, ok := impl.RunFold(lines, []int{3}, nil)
	if !ok || shape(s) != shape(begun(t, lines, 3)) || !slices.Equal(s.Marks, vars("p 1")) {
		t.Errorf("%v, %+v", ok, s)
	}
	all := haps(signal("go", 3), done(1, 7), cancel(), cancel(), signal("go", 4), broke(3, 9))
	s, ok = impl.RunFold(lines, []int{3}, all)
	if !ok || s.Stands != impl.RunStopped || !slices.Equal(s.Box, vars("go 3", "go 4")) {
		t.Errorf("%v, %+v", ok, s)
	}
	for _, c := range [][]impl.RunHap{
		{done(2, 1)}, {signal("go", 3), fired(1)}, {done(1, 7), done(1, 7)}, {done(1, 10000)}, {{}}, {done(1, 7), fired(2), cancel()}, {done(1, 7), {Kind: 6}, fired(2)},
		append(slices.Clone(all), cancel()),
	} {
		if s, ok := impl.RunFold(lines, []int{3}, c); ok || shape(s) != shape(impl.RunState{}) {
			t.Errorf("%v: %+v", c, s)
		}
	}
	var full []impl.RunHap
	for range impl.RunMaxBox + 1 {
		full = append(full, signal("go", 1))
	}
	if _, ok := impl.RunFold(lines, []int{3}, full[1:]); !ok {
		t.Error("a full box")
	}
	if s, ok := impl.RunFold(lines, []int{3}, full); ok || shape(s) != shape(impl.RunState{}) {
		t.Errorf("a box too full: %+v", s)
	}
}

func TestBoards(t *testing.T) {
	lines := flow(t, plainFlow)
	for _, c := range []struct {
		s     impl.RunState
		board string
	}{
		{impl.RunState{Next: 1, Stands: impl.RunDone, Result: -9999}, "done -9999"},
		{impl.RunState{Next: 1, Stands: impl.RunFailed, Result: 9999, Vars: vars("a 1", "b -2")}, "failed 9999|a 1|b -2"},
		{impl.RunState{Next: 1, Stands: impl.RunAnew, Result: 3, Args: []int{1, -2, 9999}}, "anew 3 1 -2 9999"},
		{impl.RunState{Next: 1, Stands: impl.RunAnew}, "anew 0"},
		{impl.RunState{Next: 1, Stands: impl.RunStopped, Result: -9003, Box: vars("go 1"), Marks: vars("p 1")}, "stopped -9003"},
		{impl.RunState{Next: 7, Ending: true, Result: -5, Asks: []impl.RunAsk{someAsk(6, "3-", "b", 1, 2, -3)}, Undo: []impl.RunAsk{someAsk(1, "1", "b", 1)}}, "live -5 ending|ask 6 3- b 1 2 -3"},
		{liveAt(impl.WaitSleep, 1, 5, someAsk(5, "1", "", 3)), "live 0|at :1|ask 5 1 time 3"},
		{liveAt(impl.WaitGet, 2, 0), "live 0|at :2"},
	} {
		boards(t, lines, c.s, c.board)
	}
	if impl.RunBoard(lines, impl.RunState{}) != "" || impl.RunBoard(nil, impl.RunState{Next: 1, Stands: impl.RunDone}) != "" {
		t.Error("a board of what is not ok")
	}
}

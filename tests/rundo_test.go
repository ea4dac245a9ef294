package tests

import (
	"slices"
	"strconv"
	"strings"
	"testing"

	"loop.example/dunlin/impl"
)

const tripFlow = "workflow trip n|do car book n undo unbook|both|do hotel book n undo unbook|get ok go for 30|and|patch quick|do mail send n|else|sleep 5|do mail send n|end|end|if ok less 0|fail 7|end|let i is 0|while i less n|do x work i|let i add i 1|end|return hotel"

func TestExampleBoard(t *testing.T) {
	lines := flow(t, tripFlow)
	s := begun(t, lines, 1)
	boards(t, lines, s, "live 0|n 1|at :0|ask 1 0 book 1")
	s = came(t, lines, s, done(1, 4))
	boards(t, lines, s, "live 0|car 4|n 1|at :1|at 0:2|at 1:6|ask 2 0.1 book 1|ask 3 1.1 send 1")
	s = came(t, lines, s, signal("go", 3), done(2, 5))
	boards(t, lines, s, "live 0|car 4|hotel 5|n 1|ok 3|at :1|at 0:4|at 1:6|ask 3 1.1 send 1")
	s = came(t, lines, s, done(3, 6))
	boards(t, lines, s, "live 0|car 4|hotel 5|i 0|mail 6|n 1|ok 3|at :15|ask 4 2 work 0")
	s = came(t, lines, s, done(4, 8))
	boards(t, lines, s, "done 5|car 4|hotel 5|i 1|mail 6|n 1|ok 3|x 8")
	if len(s.Undo) != 2 || s.Next != 5 || len(s.Box) != 0 || shape(impl.RunState{Marks: s.Marks}) != shape(impl.RunState{Marks: vars("quick 1")}) {
		t.Errorf("%+v", s)
	}
}

// runCase is a workflow with what happens to it, and the board behind that.
type runCase struct {
	text  string
	args  []int
	haps  []impl.RunHap
	board string
}

func allBoards(t *testing.T, list []runCase) {
	t.Helper()
	for _, c := range list {
		lines := flow(t, c.text)
		s := came(t, lines, begun(t, lines, c.args...), c.haps...)
		if got := strings.ReplaceAll(strings.TrimSuffix(impl.RunBoard(lines, s), "\n"), "\n", "|"); got != c.board {
			t.Errorf("%s behind %v: %s, asked for %s", c.text, c.haps, got, c.board)
		}
	}
}

func TestEachStep(t *testing.T) {
	allBoards(t, []runCase{
		{"workflow w a|let b is a|let c add a b|let d sub a 7|let e mul c d|return e", []int{3}, nil, "done -24|a 3|b 3|c 6|d -4|e -24"},
		{"workflow w a|let a is -5|let a sub 1 a|return a", []int{3}, nil, "done 6|a 6"},
		{"workflow w a|do b x|return b", []int{3}, nil, "live 0|a 3|at :0|ask 1 0 x"},
		{"workflow w a|do b x a 4 -9999 undo y|return b", []int{3}, nil, "live 0|a 3|at :0|ask 1 0 x 3 4 -9999"},
		{"workflow w a|do b x a|do b y b a|return b", []int{3}, haps(done(1, 8)), "live 0|a 3|b 8|at :1|ask 2 1 y 8 3"},
		{"workflow w a|sleep a|sleep 0|sleep -4|return a", []int{3}, nil, "live 0|a 3|at :0|ask 1 0 time 3"},
		{"workflow w a|sleep a|sleep 0|sleep -4|return a", []int{3}, haps(fired(1), fired(2)), "live 0|a 3|at :2|ask 3 2 time -4"},
		{"workflow w a|sleep a|sleep 0|sleep -4|return a", []int{3}, haps(fired(1), fired(2), fired(3)), "done 3|a 3"},
		{"workflow w a|get b go|return b", []int{3}, nil, "live 0|a 3|at :0"},
		{"workflow w a|get b go for a|return b", []int{3}, nil, "live 0|a 3|at :0|ask 1 0 time 3"},
		{"workflow w|return -9999", nil, nil, "done -9999"},
		{"workflow w a|fail a", []int{9999}, nil, "failed 9999|a 9999"},
		{"workflow w a b c|next c b a", []int{1, 2, -3}, nil, "anew 0 -3 2 1|a 1|b 2|c -3"},
		{"workflow w a|next", []int{1}, nil, "anew 0|a 1"},
		{"workflow w z a|return z", []int{1, 2}, nil, "done 1|a 2|z 1"},
		{"workflow w aa a9 a|return a9", []int{1, 2, 3}, nil, "done 2|a 3|a9 2|aa 1"},
	})
}

func TestTests(t *testing.T) {
	for word, holds := range map[string]func(a, b int) bool{
		"less":  func(a, b int) bool { return a < b },
		"same":  func(a, b int) bool { return a == b },
		"more":  func(a, b int) bool { return a > b },
		"other": func(a, b int) bool { return a != b },
	} {
		ends := flow(t, "workflow w a b|if a "+word+" b|return 1|else|return 2|end")
		goes := flow(t, "workflow w a b|if a "+word+" b|let c is 1|end|return 2")
		loops := flow(t, "workflow w a b|let c is 0|while a "+word+" b|let c add c 1|let a is 0|let b is 0|if c more 5|return c|end|end|return c")
		for _, c := range [][2]int{{0, 0}, {1, 2}, {2, 1}, {-9999, 9999}, {9999, -9999}, {-3, -3}} {
			first := holds(c[0], c[1])
			s := begun(t, ends, c[:]...)
			if (s.Result == 1) != first || s.Stands != impl.RunDone {
				t.Errorf("%d %s %d: %+v", c[0], word, c[1], s)
			}
			s = begun(t, goes, c[:]...)
			if (len(s.Vars) == 3) != first || s.Result != 2 {
				t.Errorf("%d %s %d: %+v", c[0], word, c[1], s)
			}
			s = begun(t, loops, c[:]...)
			want := 0
			if first {
				want = 1
			}
			if first && holds(0, 0) {
				want = 6
			}
			if s.Result != want {
				t.Errorf("while %d %s %d: %+v", c[0], word, c[1], s)
			}
		}
	}
}

// A name that has no number counts as 0: a state may be ok without it.
func TestNamesWithoutNumbers(t *testing.T) {
	lines := flow(t, "workflow w n|sleep n|let a add n 5|return a")
	s := begun(t, lines, 3)
	s.Vars = nil
	boards(t, lines, came(t, lines, s, fired(1)), "done 5|a 5")
}

func TestNumbersAtTheirLimits(t *testing.T) {
	for _, c := range []struct {
		let          string
		a, b, result int
		bad          bool
	}{
		{"add", 9998, 1, 9999, false}, {"add", 9999, 1, 0, true}, {"add", 9999, 9999, 0, true}, {"add", -9999, 0, -9999, false}, {"add", -9999, -1, 0, true},
		{"sub", -9998, 1, -9999, false}, {"sub", -9999, 1, 0, true}, {"sub", 9999, 0, 9999, false}, {"sub", 9999, -1, 0, true},
		{"mul", 9999, 1, 9999, false}, {"mul", 9999, -1, -9999, false}, {"mul", 100, 100, 0, true}, {"mul", 100, -100, 0, true}, {"mul", 99, 101, 9999, false}, {"mul", -99, 101, -9999, false}, {"mul", 9999, 9999, 0, true}, {"mul", -9999, -9999, 0, true},
	} {
		lines := flow(t, "workflow w a b|let c is 5|let c "+c.let+" a b|return c")
		s := begun(t, lines, c.a, c.b)
		if c.bad {
			boards(t, lines, s, "failed -9001|a "+strconv.Itoa(c.a)+"|b "+strconv.Itoa(c.b)+"|c 5")
		} else if s.Stands != impl.RunDone || s.Result != c.result {
			t.Errorf("%d %s %d: %+v", c.a, c.let, c.b, s)
		}
	}
	lines := flow(t, "workflow w a|do b x undo y|get c go for 5|return c")
	for _, n := range []int{-9999, 9999, -1, 0} {
		s := begun(t, lines, n)
		s = came(t, lines, s, done(1, n), signal("go", n))
		if s.Result != n || s.Vars[0].Num != n || s.Vars[1].Num != n {
			t.Errorf("%d: %+v", n, s)
		}
		s = came(t, lines, begun(t, lines, n), signal("other", n), broke(1, n))
		if s.Result != n || s.Box[0].Num != n || s.Stands != impl.RunFailed {
			t.Errorf("%d: %+v", n, s)
		}
	}
	for _, n := range []int{-10000, 10000, 1 << 62, -1 << 63} {
		if s, ok := impl.RunStart(lines, []int{n}, nil, true); ok || shape(s) != shape(impl.RunState{}) {
			t.Errorf("begun with %d: %+v", n, s)
		}
		s := begun(t, lines, 1)
		for _, h := range haps(done(1, n), broke(1, n), signal("go", n), signal("other", n)) {
			turnedDown(t, lines, s, h, 5)
		}
		ending := came(t, lines, s, done(1, 1), cancel())
		for _, h := range haps(done(2+1, n), broke(2+1, n), signal("go", n)) {
			turnedDown(t, lines, ending, h, 5)
		}
	}
}

func TestArgsOfABeginning(t *testing.T) {
	for _, text := range []string{"workflow w|return 1", "workflow w a|return 1", "workflow w a b|return 1", "workflow w a b c|return 1"} {
		lines := flow(t, text)
		for count := range 6 {
			s, ok := impl.RunStart(lines, make([]int, count), nil, true)
			if ok != (count == len(lines[0].Args)) || !ok && shape(s) != shape(impl.RunState{}) {
				t.Errorf("%s: begun with %d: %v, %+v", text, count, ok, s)
			}
		}
	}
	lines := flow(t, "workflow w a b c|return 1")
	for _, args := range [][]int{{10000, 0, 0}, {0, -10000, 0}, {0, 0, 10000}} {
		if _, ok := impl.RunStart(lines, args, nil, true); ok {
			t.Errorf("begun with %v", args)
		}
	}
}

func TestGetWithATime(t *testing.T) {
	text := "workflow w|get a go for 5|get b go for 6|return a"
	allBoards(t, []runCase{
		{text, nil, nil, "live 0|at :0|ask 1 0 time 5"},
		{text, nil, haps(signal("go", 7)), "live 0|a 7|at :1|ask 2 1 time 6"},
		{text, nil, haps(fired(1)), "live 0|a -1|at :1|ask 2 1 time 6"},
		{text, nil, haps(signal("no", 7)), "live 0|at :0|ask 1 0 time 5"},
		{text, nil, haps(signal("go", 7), fired(2)), "done 7|a 7|b -1"},
		{text, nil, haps(fired(1), signal("go", 7)), "done -1|a -1|b 7"},
		{"workflow w|sleep 1|get a go for 5|get b go for 6|get c no for 7|return b", nil, haps(signal("go", 7), signal("no", 1), signal("go", 8), signal("go", 9), fired(1)), "done 8|a 7|b 8|c 1"},
		{"workflow w|sleep 1|get a go|get b no|return b", nil, haps(signal("no", 7), signal("go", 6), fired(1)), "done 7|a 6|b 7"},
	})
	lines := flow(t, text)
	s := came(t, lines, begun(t, lines), signal("go", 7))
	turnedDown(t, lines, s, fired(1), 3)
	s = came(t, lines, begun(t, lines), fired(1))
	turnedDown(t, lines, s, fired(1), 3)
}

// What lies in the box is taken out, the first of its name, and the others stay in order; what is taken asks for no time.
func TestBox(t *testing.T) {
	lines := flow(t, "workflow w|sleep 1|get a go for 5|sleep 2|get b go|get c go for 5|return b")
	s := came(t, lines, begun(t, lines), signal("x", 1), signal("go", 2), signal("y", 3), signal("go", 4), signal("x", 5))
	s = came(t, lines, s, fired(1))
	boards(t, lines, s, "live 0|a 2|at :2|ask 2 1 time 2")
	if !slices.Equal(s.Box, vars("x 1", "y 3", "go 4", "x 5")) {
		t.Errorf("%v", s.Box)
	}
	s = came(t, lines, s, fired(2))
	boards(t, lines, s, "live 0|a 2|b 4|at :4|ask 3 2 time 5")
	if !slices.Equal(s.Box, vars("x 1", "y 3", "x 5")) {
		t.Errorf("%v", s.Box)
	}
	s = came(t, lines, s, signal("go", 9))
	if !slices.Equal(s.Box, vars("x 1", "y 3", "x 5")) || s.Stands != impl.RunDone {
		t.Errorf("%+v", s)
	}
}

func TestBoxAtItsLimit(t *testing.T) {
	lines := flow(t, "workflow w|do d x undo y|get a go|return a")
	s := begun(t, lines)
	for i := range impl.RunMaxBox {
		s = came(t, lines, s, signal("x", i))
	}
	turnedDown(t, lines, s, signal("x", 1), 4)
	turnedDown(t, lines, s, signal("go", 1), 4)
	turnedDown(t, lines, s, signal("go", 10000), 5)
	turnedDown(t, lines, s, signal("Go", 1), 5)
	s = came(t, lines, s, done(1, 1))
	// Box is full, though somebody waits for it.
	turnedDown(t, lines, s, signal("go", 1), 4)
	s = came(t, lines, s, cancel())
	turnedDown(t, lines, s, signal("go", 1), 4)
	if len(s.Box) != impl.RunMaxBox || s.Box[19].Num != 19 {
		t.Errorf("%+v", s)
	}
	s.Box = s.Box[:impl.RunMaxBox-1]
	s = came(t, lines, s, signal("go", 7))
	if len(s.Box) != impl.RunMaxBox || s.Box[19] != (impl.RunVar{Name: "go", Num: 7}) || !s.Ending {
		t.Errorf("%+v", s)
	}
}

// longFlow does a step for each let, two for each time round, one for the last test, and those behind.
func longFlow(lets, rounds int, rest string) string {
	return "workflow w" + strings.Repeat("|let i is 0", lets) + "|while i less " + strconv.Itoa(rounds) + "|let i add i 1|end|" + rest
}

func TestStepsAtTheirLimit(t *testing.T) {
	busy := "failed -9002|i 98"
	allBoards(t, []runCase{
		// The first has 1 + 2 * 98 + 1 steps, and the return.
		{longFlow(1, 98, "return i"), nil, nil, "done 98|i 98"},
		{longFlow(2, 98, "return i"), nil, nil, "done 98|i 98"},
		{longFlow(3, 98, "return i"), nil, nil, busy},
		{longFlow(1, 99, "return i"), nil, nil, "failed -9002|i 99"},
		{longFlow(1, 1000, "return i"), nil, nil, "failed -9002|i 99"},
		{longFlow(2, 98, "sleep 1|return i"), nil, nil, "live 0|i 98|at :5|ask 1 0 time 1"},
		{longFlow(3, 98, "sleep 1|return i"), nil, nil, busy},
		{longFlow(2, 98, "get a go|return i"), nil, nil, "live 0|i 98|at :5"},
		{longFlow(3, 98, "get a go|return i"), nil, nil, busy},
		{longFlow(2, 98, "fail 3"), nil, nil, "failed 3|i 98"},
		{longFlow(3, 98, "fail 3"), nil, nil, busy},
		{longFlow(2, 98, "next 3"), nil, nil, "anew 0 3|i 98"},
		{longFlow(3, 98, "next 3"), nil, nil, busy},
		// A patch and a jump do not count, but are not done behind the last step.
		{longFlow(2, 98, "patch p|patch q|else|end|patch r|end|else|end|return i"), nil, nil, "done 98|i 98"},
		{longFlow(3, 98, "patch p|patch q|else|end|patch r|end|else|end|return i"), nil, nil, busy},
		// A fork and the joins count, one each.
		{longFlow(1, 96, "both|and|end|return i"), nil, nil, "done 96|i 96"},
		{longFlow(2, 96, "both|and|end|let i is 7|return i"), nil, nil, "done 7|i 7"},
		{longFlow(3, 96, "both|and|end|let i is 7|return i"), nil, nil, "failed -9002|i 7"},
		{longFlow(2, 97, "both|sleep 1|and|sleep 2|end|return i"), nil, nil, "live 0|i 97|at :5|at 0:6|at 1:8|ask 1 0.0 time 1|ask 2 1.0 time 2"},
		{longFlow(3, 97, "both|sleep 1|and|sleep 2|end|return i"), nil, nil, "failed -9002|i 97"},
		{longFlow(2, 97, "both|sleep 1|and|get a go|end|return i"), nil, nil, "live 0|i 97|at :5|at 0:6|at 1:8|ask 1 0.0 time 1"},
		{longFlow(3, 97, "both|sleep 1|and|get a go|end|return i"), nil, nil, "failed -9002|i 97"},
		// It is counted anew behind what happens.
		{longFlow(2, 98, "sleep 1|let i is 0|while i less 98|let i add i 1|end|return i"), nil, haps(fired(1)), "done 98|i 98"},
		{longFlow(2, 98, "sleep 1|let i is 0|let i is 0|while i less 98|let i add i 1|end|return i"), nil, haps(fired(1)), "done 98|i 98"},
		{longFlow(2, 98, "sleep 1|let i is 0|let i is 0|let i is 0|while i less 98|let i add i 1|end|return i"), nil, haps(fired(1)), "failed -9002|i 98"},
	})
	lines := flow(t, longFlow(2, 98, "patch p|end|return i"))
	if s := begun(t, lines); s.Stands != impl.RunDone || !slices.Equal(s.Marks, vars("p 1")) {
		t.Errorf("a patch ahead of the last step: %+v", s)
	}
	lines = flow(t, longFlow(3, 98, "patch p|end|return i"))
	if s := begun(t, lines); s.Stands != impl.RunFailed || len(s.Marks) != 0 {
		t.Errorf("a patch behind the last step: %+v", s)
	}
	lines = flow(t, "workflow w|do a x undo y|let i is 0|while i less 1000|let i add i 1|end|return i")
	s := came(t, lines, begun(t, lines), done(1, 4))
	boards(t, lines, s, "live -9002 ending|a 4|i 99|ask 2 0- y 4")
	boards(t, lines, came(t, lines, s, done(2, 4)), "failed -9002|a 4|i 99")
}

func TestForks(t *testing.T) {
	deep := "workflow w|both|do a x|both|do b x|and|do c y a|end|do d z b c|and|do e v|end|do f u d e|return f"
	allBoards(t, []runCase{
		{deep, nil, nil, "live 0|at :0|at 0:1|at 1:9|ask 1 0.0 x|ask 2 1.0 v"},
		{deep, nil, haps(done(2, 5)), "live 0|e 5|at :0|at 0:1|at 1:10|ask 1 0.0 x"},
		{deep, nil, haps(done(1, 4)), "live 0|a 4|at :0|at 0:2|at 00:3|at 01:5|at 1:9|ask 2 1.0 v|ask 3 00.1 x|ask 4 01.1 y 4"},
		{deep, nil, haps(done(1, 4), done(4, 6)), "live 0|a 4|c 6|at :0|at 0:2|at 00:3|at 01:6|at 1:9|ask 2 1.0 v|ask 3 00.1 x"},
		{deep, nil, haps(done(1, 4), done(4, 6), done(2, 3)), "live 0|a 4|c 6|e 3|at :0|at 0:2|at 00:3|at 01:6|at 1:10|ask 3 00.1 x"},
		{deep, nil, haps(done(1, 4), done(4, 6), done(2, 3), done(3, 9)), "live 0|a 4|b 9|c 6|e 3|at :0|at 0:7|at 1:10|ask 5 0.2 z 9 6"},
		{deep, nil, haps(done(1, 4), done(3, 9), done(4, 6)), "live 0|a 4|b 9|c 6|at :0|at 0:7|at 1:9|ask 2 1.0 v|ask 5 0.2 z 9 6"},
		{deep, nil, haps(done(1, 4), done(3, 9), done(4, 6), done(5, 1)), "live 0|a 4|b 9|c 6|d 1|at :0|at 0:8|at 1:9|ask 2 1.0 v"},
		{deep, nil, haps(done(1, 4), done(3, 9), done(4, 6), done(5, 1), done(2, 2)), "live 0|a 4|b 9|c 6|d 1|e 2|at :11|ask 6 3 u 1 2"},
		{deep, nil, haps(done(1, 4), done(3, 9), done(4, 6), done(5, 1), done(2, 2), done(6, 8)), "done 8|a 4|b 9|c 6|d 1|e 2|f 8"},
		// Parts that end at once.
		{"workflow w|both|and|end|sleep 1|return 1", nil, nil, "live 0|at :3|ask 1 0 time 1"},
		{"workflow w|both|and|do a x|end|sleep 1|return 1", nil, nil, "live 0|at :0|at 0:1|at 1:2|ask 1 1.0 x"},
		{"workflow w|both|do a x|and|end|sleep 1|return 1", nil, nil, "live 0|at :0|at 0:1|at 1:3|ask 1 0.0 x"},
		{"workflow w|both|do a x|and|end|sleep 1|return 1", nil, haps(done(1, 3)), "live 0|a 3|at :4|ask 2 1 time 1"},
		{"workflow w|both|and|do a x|end|sleep 1|return 1", nil, haps(done(1, 3)), "live 0|a 3|at :4|ask 2 1 time 1"},
		{"workflow w|both|both|and|end|let a is 1|and|let b is 2|both|and|both|and|end|end|end|let c add a b|return c", nil, nil, "done 3|a 1|b 2|c 3"},
		{"workflow w|both|let a is 1|and|let b is 2|end|return b", nil, nil, "done 2|a 1|b 2"},
		// The greater Made goes on behind a join.
		{"workflow w|do a x|both|do b x|do b x|do b x|and|do c x|end|do d x|return d", nil, haps(done(1, 1), done(2, 1), done(4, 1), done(5, 1), done(3, 1)), "live 0|a 1|b 1|c 1|at :8|ask 6 4 x"},
		{"workflow w|do a x|both|do b x|and|do c x|sleep 1|get e go for 2|end|do d x|return d", nil, haps(done(1, 1), done(3, 1), fired(4), fired(5), done(2, 1)), "live 0|a 1|b 1|c 1|e -1|at :8|ask 6 4 x"},
		{"workflow w|do a x|both|let b is 1|and|let c is 1|end|do d x|return d", nil, haps(done(1, 1)), "live 0|a 1|b 1|c 1|at :6|ask 2 1 x"},
		// A fork in a loop: its threads have other keys the second time.
		{"workflow w|let i is 0|while i less 2|both|do a x|and|do b x|end|let i add i 1|end|return i", nil, haps(done(1, 1), done(2, 1)), "live 0|a 1|b 1|i 1|at :2|at 0:3|at 1:5|ask 3 0.1 x|ask 4 1.1 x"},
		// The first thread goes on ahead of the others: its asks come first, whatever stands behind it.
		{"workflow w|both|let a is 1|let a is 2|let a is 3|sleep a|and|sleep 5|end|return 1", nil, nil, "live 0|a 3|at :0|at 0:4|at 1:6|ask 1 0.0 time 3|ask 2 1.0 time 5"},
		{"workflow w|both|both|and|end|sleep 4|and|sleep 5|end|return 1", nil, nil, "live 0|at :0|at 0:4|at 1:6|ask 1 0.0 time 4|ask 2 1.0 time 5"},
	})
}

// Both parts' Made stay as they are while they wait, and are not added up.
func TestMadeBehindAJoin(t *testing.T) {
	lines := flow(t, "workflow w|both|do a x|do a x|and|both|do b x|and|do c x|do c x|do c x|end|end|sleep 1|return 1")
	s := begun(t, lines)
	if len(s.Asks) != 3 {
		t.Fatalf("%+v", s)
	}
	s = came(t, lines, s, done(2, 1), done(3, 1), done(4, 1), done(5, 1))
	if s.Threads[2].Path != "1" || s.Threads[2].Made != 3 || s.Threads[1].Made != 1 {
		t.Errorf("%+v", s.Threads)
	}
	s = came(t, lines, s, done(1, 1), done(6, 1))
	if len(s.Threads) != 1 || s.Threads[0].Made != 4 || s.Asks[0].Key != "3" {
		t.Errorf("%+v", s)
	}
}

func TestThreadsAtTheirLimit(t *testing.T) {
	lines := flow(t, "workflow w|do z x undo y|"+forksAtOnce(7)+"|return 1")
	s := came(t, lines, begun(t, lines), done(1, 7))
	if len(s.Threads) != 15 || len(s.Asks) != 8 || s.Ending {
		t.Fatalf("%+v", s)
	}
	for len(s.Asks) > 0 {
		s = came(t, lines, s, fired(s.Asks[len(s.Asks)-1].Id))
	}
	if s.Stands != impl.RunDone {
		t.Errorf("%+v", s)
	}
	lines = flow(t, "workflow w|do z x undo y|"+forksAtOnce(8)+"|return 1")
	s = came(t, lines, begun(t, lines), done(1, 7))
	if !s.Ending || s.Result != impl.RunBusy || len(s.Asks) != 1 || s.Asks[0].Name != "y" || len(s.Threads) != 0 {
		t.Errorf("%+v", s)
	}
	// Those that have gone make room for others.
	lines = flow(t, "workflow w|"+forksAtOnce(7)+"|both|sleep 1|and|sleep 1|end|return 1")
	s = begun(t, lines)
	for range 8 {
		s = came(t, lines, s, fired(s.Asks[0].Id))
	}
	if len(s.Threads) != 3 || s.Asks[0].Key != "0.1" {
		t.Errorf("%+v", s)
	}
}

// withNext is a run whose asks so far are so many that the next one has this Id.
func withNext(s impl.RunState, next int) impl.RunState {
	s = copyState(s)
	by := next - s.Next
	for i := range s.Asks {
		s.Asks[i].Id += by
	}
	for i := range s.Threads {
		if s.Threads[i].Ask > 0 {
			s.Threads[i].Ask += by
		}
	}
	s.Next = next
	return s
}

func TestIdsAtTheirLimit(t *testing.T) {
	lines := flow(t, "workflow w|do a x undo y|do b x 3 undo z|do c x|return c")
	s := withNext(begun(t, lines), impl.RunMaxId)
	s = came(t, lines, s, done(impl.RunMaxId-1, 4))
	boards(t, lines, s, "live 0|a 4|at :1|ask 9999 1 x 3")
	if s.Next != impl.RunMaxId+1 {
		t.Errorf("%+v", s)
	}
	s = came(t, lines, s, done(impl.RunMaxId, 5))
	boards(t, lines, s, "failed -9002|a 4|b 5")
	if s.Next != impl.RunMaxId+1 || len(s.Undo) != 2 || s.Undo[1].Id != impl.RunMaxId || s.Undo[1].Name != "z" {
		t.Errorf("%+v", s)
	}
	// What is to be undone is asked for up to the last Id, too.
	s = came(t, lines, begun(t, lines), done(1, 4), done(2, 5))
	s = withNext(s, impl.RunMaxId)
	s = came(t, lines, s, cancel())
	boards(t, lines, s, "live -9003 ending|a 4|b 5|ask 9999 1- z 5")
	s = came(t, lines, s, done(impl.RunMaxId, 1))
	boards(t, lines, s, "failed -9002|a 4|b 5")
	if len(s.Undo) != 0 || s.Ending {
		t.Errorf("the last one was taken out: %+v", s)
	}
	s = came(t, lines, begun(t, lines), done(1, 4), done(2, 5))
	s = came(t, lines, withNext(s, impl.RunMaxId+1), cancel())
	if s.Stands != impl.RunFailed || s.Result != impl.RunBusy || len(s.Undo) != 1 || s.Undo[0].Name != "y" || s.Ending {
		t.Errorf("one was taken out: %+v", s)
	}
	// Without anything to be undone nothing is asked for.
	s = came(t, lines, withNext(begun(t, lines), impl.RunMaxId+1), cancel())
	boards(t, lines, s, "stopped -9003")
	for _, text := range []string{"workflow w|do a x|sleep 1|return a", "workflow w|do a x|get b go for 1|return a"} {
		lines = flow(t, text)
		s = came(t, lines, withNext(begun(t, lines), impl.RunMaxId+1), done(impl.RunMaxId, 4))
		boards(t, lines, s, "failed -9002|a 4")
		s = came(t, lines, withNext(begun(t, lines), impl.RunMaxId), done(impl.RunMaxId-1, 4))
		boards(t, lines, s, "live 0|a 4|at :1|ask 9999 1 time 1")
	}
	lines = flow(t, "workflow w|do a x|get b go|return a")
	s = came(t, lines, withNext(begun(t, lines), impl.RunMaxId+1), done(impl.RunMaxId, 4))
	boards(t, lines, s, "live 0|a 4|at :1")
	// The other threads' asks go, too.
	lines = flow(t, "workflow w|both|do a x|do a x|and|do b x|end|return a")
	s = came(t, lines, withNext(begun(t, lines), impl.RunMaxId+1), done(impl.RunMaxId-1, 4))
	boards(t, lines, s, "failed -9002|a 4")
}

func TestUndo(t *testing.T) {
	text := "workflow w|do a x 5 undo p|do b y|both|do c z undo q|sleep 9|and|do d v undo r|sleep 9|end|return 1"
	lines := flow(t, text)
	s := came(t, lines, begun(t, lines), done(1, 11), done(2, 12), done(4, 14), done(3, 13))
	if shape(impl.RunState{Undo: s.Undo}) != shape(impl.RunState{Undo: []impl.RunAsk{someAsk(1, "0", "p", 11), someAsk(4, "1.2", "r", 14), someAsk(3, "0.2", "q", 13)}}) {
		t.Fatalf("%+v", s.Undo)
	}
	s = came(t, lines, s, cancel())
	boards(t, lines, s, "live -9003 ending|a 11|b 12|c 13|d 14|ask 7 0.2- q 13")
	turnedDown(t, lines, s, done(6, 1), 3)
	turnedDown(t, lines, s, fired(5), 3)
	turnedDown(t, lines, s, fired(7), 3)
	same := came(t, lines, s, cancel())
	if shape(same) != shape(s) {
		t.Errorf("cancelled twice: %+v", same)
	}
	s = came(t, lines, s, done(7, 99))
	boards(t, lines, s, "live -9003 ending|a 11|b 12|c 13|d 14|ask 8 1.2- r 14")
	// What broke while it is undone does not count, nor does a signal.
	s = came(t, lines, s, signal("go", 3), broke(8, 55))
	boards(t, lines, s, "live -9003 ending|a 11|b 12|c 13|d 14|ask 9 0- p 11")
	if !slices.Equal(s.Box, vars("go 3")) || len(s.Undo) != 0 {
		t.Errorf("%+v", s)
	}
	s = came(t, lines, s, done(9, 1))
	boards(t, lines, s, "stopped -9003|a 11|b 12|c 13|d 14")
	turnedDown(t, lines, s, cancel(), 2)
	if !slices.Equal(s.Box, vars("go 3")) || s.Next != 10 {
		t.Errorf("%+v", s)
	}
}

func TestEnds(t *testing.T) {
	one := "workflow w n|do a x undo y|do b z|fail n"
	allBoards(t, []runCase{
		// With none, and with one to be undone.
		{one, []int{7}, haps(cancel()), "stopped -9003|n 7"},
		{one, []int{7}, haps(broke(1, 8)), "failed 8|n 7"},
		{one, []int{7}, haps(broke(1, -9003)), "stopped -9003|n 7"},
		{one, []int{7}, haps(done(1, 4), broke(2, 8)), "live 8 ending|a 4|n 7|ask 3 0- y 4"},
		{one, []int{7}, haps(done(1, 4), broke(2, 8), broke(3, 9)), "failed 8|a 4|n 7"},
		{one, []int{7}, haps(done(1, 4), broke(2, 8), cancel(), done(3, 9)), "failed 8|a 4|n 7"},
		{one, []int{7}, haps(done(1, 4), broke(2, 0), done(3, 9)), "failed 0|a 4|n 7"},
		{one, []int{7}, haps(done(1, 4), done(2, 5)), "live 7 ending|a 4|b 5|n 7|ask 3 0- y 4"},
		{one, []int{7}, haps(done(1, 4), done(2, 5), done(3, 1)), "failed 7|a 4|b 5|n 7"},
		{one, []int{-9003}, haps(done(1, 4), done(2, 5), done(3, 1)), "stopped -9003|a 4|b 5|n -9003"},
		{one, []int{-9001}, haps(done(1, 4), done(2, 5), done(3, 1)), "failed -9001|a 4|b 5|n -9001"},
		{"workflow w|do a x undo y|let a mul a 9999|return a", nil, haps(done(1, 2)), "live -9001 ending|a 2|ask 2 0- y 2"},
		// What is done is not undone, if it ends well.
		{"workflow w|do a x undo y|return a", nil, haps(done(1, 2)), "done 2|a 2"},
		{"workflow w|do a x undo y|next a", nil, haps(done(1, 2)), "anew 0 2|a 2"},
		// A part that goes wrong ends all.
		{"workflow w|both|do a x|let a mul a 9999|and|sleep 5|end|return 1", nil, haps(done(1, 2)), "failed -9001|a 2"},
		{"workflow w|both|let a mul 9999 9999|and|sleep 5|end|return 1", nil, nil, "failed -9001"},
		{"workflow w|both|sleep 5|and|let a mul 9999 9999|end|return 1", nil, nil, "failed -9001"},
	})
	lines := flow(t, "workflow w|do a x undo y|return a")
	s := came(t, lines, begun(t, lines), signal("go", 3), done(1, 2))
	if len(s.Undo) != 1 || len(s.Box) != 1 || s.Next != 2 {
		t.Errorf("what stands keeps these: %+v", s)
	}
	for _, h := range haps(done(1, 2), broke(1, 2), fired(1), signal("go", 1), cancel(), done(1, 10000), signal("Go", 1), impl.RunHap{Kind: 9}) {
		turnedDown(t, lines, s, h, 2)
	}
}

func TestUndoAtItsLimit(t *testing.T) {
	lines := flow(t, "workflow w|let i is 0|while i less 50|do a x i undo y|let i add i 1|end|return i")
	s := begun(t, lines)
	for i := range impl.RunMaxUndo {
		s = came(t, lines, s, done(i+1, i))
	}
	if len(s.Undo) != impl.RunMaxUndo || s.Ending {
		t.Fatalf("%+v", s)
	}
	boards(t, lines, s, "live 0|a 39|i 40|at :2|ask 41 40 x 40")
	s = came(t, lines, s, done(41, 77))
	boards(t, lines, s, "live -9002 ending|a 39|i 40|ask 42 39- y 39")
	if len(s.Undo) != impl.RunMaxUndo-1 {
		t.Errorf("%+v", s.Undo)
	}
	for i := impl.RunMaxUndo - 2; i >= 0; i-- {
		s = came(t, lines, s, done(s.Asks[0].Id, 1))
		if s.Asks[0].Key != strconv.Itoa(i)+"-" || s.Asks[0].Args[0] != i {
			t.Fatalf("%+v", s)
		}
	}
	boards(t, lines, came(t, lines, s, broke(s.Asks[0].Id, 3)), "failed -9002|a 39|i 40")
	// Something without an undo may be done behind that.
	lines = flow(t, "workflow w|do a x|return a")
	full := begun(t, lines)
	full.Undo = slices.Repeat([]impl.RunAsk{someAsk(1, "1", "b", 1)}, impl.RunMaxUndo)
	boards(t, lines, came(t, lines, full, done(1, 3)), "done 3|a 3")
}

func TestPatches(t *testing.T) {
	lines := flow(t, "workflow w|let r is 0|patch p|let r add r 1|else|let r add r 2|end|patch q|let r add r 10|end|sleep 1|patch p|let r add r 100|end|patch s|let r add r 1000|end|return r")
	for i, c := range []struct {
		first, then   []string
		liveA, liveB  bool
		result        int
		marks, marksB string
	}{
		{nil, nil, true, true, 1111, "p 1|q 1", "p 1|q 1|s 1"},
		{nil, nil, false, false, 2, "p 0|q 0", "p 0|q 0|s 0"},
		{nil, nil, false, true, 1002, "p 0|q 0", "p 0|q 0|s 1"},
		{nil, nil, true, false, 111, "p 1|q 1", "p 1|q 1|s 0"},
		{[]string{"p"}, nil, false, false, 101, "p 1|q 0", "p 1|q 0|s 0"},
		{[]string{"q"}, []string{"p", "s"}, false, false, 1012, "p 0|q 1", "p 0|q 1|s 1"},
		{[]string{"x", "q", "", "q", "p"}, []string{"\xff"}, false, false, 111, "p 1|q 1", "p 1|q 1|s 0"},
		{[]string{"s"}, nil, false, false, 2, "p 0|q 0", "p 0|q 0|s 0"},
		{[]string{"p"}, []string{"s"}, true, true, 1111, "p 1|q 1", "p 1|q 1|s 1"},
		{[]string{"P", "p "}, nil, false, false, 2, "p 0|q 0", "p 0|q 0|s 0"},
	} {
		s, ok := impl.RunStart(lines, nil, c.first, c.liveA)
		if !ok || !slices.Equal(s.Marks, vars(strings.Split(c.marks, "|")...)) {
			t.Errorf("case %d: %+v", i, s)
		}
		s, code := impl.RunDo(lines, s, fired(1), c.then, c.liveB)
		if code != 0 || s.Result != c.result || !slices.Equal(s.Marks, vars(strings.Split(c.marksB, "|")...)) {
			t.Errorf("case %d: %d, %+v", i, code, s)
		}
	}
	// As Marks says, whatever else is there.
	s := begun(t, lines)
	s.Marks = vars("a 1", "p 0", "s 0", "z 0")
	s = came(t, lines, s, fired(1))
	if s.Result != 11 || !slices.Equal(s.Marks, vars("a 1", "p 0", "s 0", "z 0")) {
		t.Errorf("%+v", s)
	}
}

func TestCodes(t *testing.T) {
	lines := flow(t, "workflow w|both|do a x undo u|and|get b go for 5|end|do c y|return c")
	s := begun(t, lines)
	for _, c := range []struct {
		h    impl.RunHap
		code int
	}{
		{done(0, 1), 3}, {done(3, 1), 3}, {done(-1, 1), 3}, {done(2, 1), 3}, {done(1, 10000), 5}, {done(1, -10000), 5},
		{broke(0, 1), 3}, {broke(3, 1), 3}, {broke(2, 1), 3}, {broke(1, 10000), 5}, {broke(1, -10000), 5},
		{fired(0), 3}, {fired(3), 3}, {fired(1), 3}, {fired(-2), 3},
		{signal("", 1), 5}, {signal("Go", 1), 5}, {signal("ninebytes", 1), 5}, {signal("go", 10000), 5}, {signal("go", -10000), 5}, {signal("1", 1), 5}, {signal("g\xff", 1), 5},
		{impl.RunHap{}, 5}, {impl.RunHap{Kind: 6}, 5}, {impl.RunHap{Kind: -1}, 5}, {impl.RunHap{Kind: 1 << 40, Id: 1, Name: "go"}, 5},
		// Two at once: the first that is listed.
		{done(7, 10000), 3}, {broke(2, -10000), 3}, {signal("Go", 10000), 5}, {impl.RunHap{Kind: 0, Num: 10000}, 5},
	} {
		turnedDown(t, lines, s, c.h, c.code)
	}
	spoilt := copyState(s)
	spoilt.Next = 0
	for _, h := range haps(done(1, 1), done(9, 1), signal("Go", 1), impl.RunHap{Kind: 9}, cancel()) {
		turnedDown(t, lines, spoilt, h, 1)
		turnedDown(t, nil, s, h, 1)
	}
	stood := came(t, lines, s, cancel())
	stood.Box = manyVars(impl.RunMaxBox)
	for _, h := range haps(done(1, 1), done(9, 10000), signal("Go", 1), signal("go", 1), impl.RunHap{Kind: 9}, cancel()) {
		turnedDown(t, lines, stood, h, 2)
	}
	stood.Box = manyVars(impl.RunMaxBox + 1)
	turnedDown(t, lines, stood, cancel(), 1)
	// What a kind has no use for is not looked at.
	for _, h := range haps(impl.RunHap{Kind: impl.HapDone, Id: 1, Name: "No name", Num: 3}, impl.RunHap{Kind: impl.HapFired, Id: 2, Name: "-", Num: 99999}, impl.RunHap{Kind: impl.HapCancel, Id: -5, Name: "-", Num: 99999}, impl.RunHap{Kind: impl.HapSignal, Id: 99, Name: "go", Num: 3}) {
		came(t, lines, s, h)
	}
}

// A signal is for the thread that waits for it; another one's stays in the box.
func TestSignalsOfParts(t *testing.T) {
	lines := flow(t, "workflow w|both|get a go|get b go|and|get c no for 7|get d no|end|return a")
	s := came(t, lines, begun(t, lines), signal("no", 4))
	boards(t, lines, s, "live 0|c 4|at :0|at 0:1|at 1:5")
	s = came(t, lines, s, signal("go", 5), signal("x", 1), signal("go", 6))
	boards(t, lines, s, "live 0|a 5|b 6|c 4|at :0|at 0:3|at 1:5")
	s = came(t, lines, s, signal("go", 7), signal("no", 8))
	boards(t, lines, s, "done 5|a 5|b 6|c 4|d 8")
	if !slices.Equal(s.Box, vars("x 1", "go 7")) {
		t.Errorf("%+v", s)
	}
	// Work of that name is none, nor is what waits at a join.
	lines = flow(t, "workflow w|do go go|get a go|return a")
	s = came(t, lines, begun(t, lines), signal("go", 4))
	boards(t, lines, s, "live 0|at :0|ask 1 0 go")
	boards(t, lines, came(t, lines, s, done(1, 9)), "done 4|a 4|go 9")
}

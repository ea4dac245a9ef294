package tests

import (
	"fmt"
	"math"
	"math/rand"
	"slices"
	"strings"
	"testing"

	"loop.example/dunlin/impl"
)

// numberNames may all be made a letter longer; some are the beginning of another one, or a word, a signal, a patch or work somewhere else.
var numberNames = strings.Fields("a ab abc b ba go gone no x y p q unx und for is add end let w x9 x99 workflo abcdefg")

// called is a workflow whose numbers are called by other names.
func called(lines []impl.FlowLine, as func(name string) string) []impl.FlowLine {
	lines = deepCopy(lines)
	for i, l := range lines {
		if l.To != "" {
			lines[i].To = as(l.To)
		}
		for j, a := range l.Args {
			if nameForm.MatchString(a) {
				lines[i].Args[j] = as(a)
			}
		}
	}
	return lines
}

// calledAnyhow calls the numbers of a workflow by names that are picked at random, no two by the same.
func calledAnyhow(r *rand.Rand, lines []impl.FlowLine) []impl.FlowLine {
	order, names := r.Perm(len(numberNames)), map[string]string{}
	return called(lines, func(name string) string {
		if names[name] == "" {
			names[name] = numberNames[order[len(names)]]
		}
		return names[name]
	})
}

// playText is how a play ends, and what happened; not how numbers are called.
func playText(s impl.RunState, list []impl.RunHap) string {
	return fmt.Sprint(s.Stands, s.Result, s.Args, s.Asks, list)
}

// Promise 52: what a workflow does does not hang on how its numbers are called.
func TestNumbersByLongerNames(t *testing.T) {
	t.Parallel()
	r := rand.New(rand.NewSource(101))
	seen := map[string]int{}
	for range 900 {
		lines, args := livelyFlow(r)
		lines = calledAnyhow(r, lines)
		letter := []string{"z", "a", "o"}[r.Intn(3)]
		behind := r.Intn(3) > 0
		as := func(name string) string {
			if behind {
				return name + letter
			}
			return letter + name
		}
		longer := called(lines, as)
		signals, picks, most := anySignals(r), []int{r.Intn(7), r.Intn(7)}, []int{0, 5, 40, 200}[r.Intn(4)]
		s, list := impl.RunPlay(lines, args, signals, picks, most)
		x, all := impl.RunPlay(longer, args, signals, picks, most)
		if impl.FlowCheck(longer).Code != 0 {
			// `und` becomes the word that says what is undone.
			seen["not ok"]++
			if playText(x, all) != playText(impl.RunState{}, nil) {
				t.Fatalf("%v plays %s", longer, playText(x, all))
			}
			continue
		}
		if playText(s, list) != playText(x, all) {
			t.Fatalf("%sand\n%s%v: %s, and %s", impl.FlowPrint(lines), impl.FlowPrint(longer), args, playText(s, list), playText(x, all))
		}
		for _, v := range s.Vars {
			if !slices.Contains(x.Vars, impl.RunVar{Name: as(v.Name), Num: v.Num}) || len(s.Vars) != len(x.Vars) {
				t.Fatalf("%s%v, and %v", impl.FlowPrint(lines), s.Vars, x.Vars)
			}
		}
		seen[fmt.Sprint("stands ", s.Stands)]++
		if i := slices.IndexFunc(s.Vars, func(v impl.RunVar) bool { return as(v.Name) != x.Vars[slices.Index(s.Vars, v)].Name }); i >= 0 {
			seen["in another order"]++
		}
		if len(list) > 9 {
			seen["long"]++
		}
	}
	cameOften(t, seen, map[string]int{"stands 0": 100, "stands 1": 50, "stands 2": 20, "stands 3": 5, "in another order": 20, "long": 50})
}

// A name that is as long as it may be can't be made longer.
func TestNumbersByTheLongestNames(t *testing.T) {
	lines := flow(t, "workflow w n m|do a x n m undo y|get b go for m|if a less b|next a b|end|let n add a b|return n")
	long := func(size int) []impl.FlowLine {
		return called(lines, func(name string) string { return name + strings.Repeat("q", size-1) })
	}
	want, all := impl.RunPlay(lines, []int{2, 3}, vars("go 4"), nil, 9)
	if want.Stands != impl.RunAnew && want.Stands != impl.RunDone || len(all) < 2 {
		t.Fatalf("%+v", want)
	}
	for size := 1; size <= impl.FlowMaxName; size++ {
		if s, list := impl.RunPlay(long(size), []int{2, 3}, vars("go 4"), nil, 9); playText(s, list) != playText(want, all) {
			t.Errorf("%d bytes: %s, asked for %s", size, playText(s, list), playText(want, all))
		}
	}
	tooLong := long(impl.FlowMaxName + 1)
	if f := impl.FlowCheck(tooLong); f != (impl.FlowFault{Line: 1, Code: impl.FlowBadLine}) {
		t.Errorf("%+v", f)
	}
	saysNothing(t, tooLong, []int{2, 3})
	// The first part may be longer, and the others not.
	saysNothing(t, called(lines, func(name string) string { return name + strings.Repeat("q", 7+len(name)*map[string]int{"b": 1}[name]) }), []int{2, 3})
	// A name may become a word that says something else where it stands.
	undone := flow(t, "workflow w und|do a x und 1|return a")
	saysNothing(t, called(undone, func(name string) string { return name + "o" }), []int{2})
	saysNothing(t, lines, []int{2})
	saysNothing(t, lines, []int{2, 10000})
	saysNothing(t, nil, nil)
}

// saysNothing asks that nothing plays, begins, is written or replayed of a workflow that is wrong, or with args that are.
func saysNothing(t *testing.T, lines []impl.FlowLine, args []int) {
	t.Helper()
	s, list := impl.RunPlay(lines, args, vars("go 4"), nil, 9)
	begun, ok := impl.RunStart(lines, args, nil, true)
	folded, also := impl.RunFold(lines, args, nil)
	past := impl.HistOf(lines, args, nil, nil, 9)
	nothing := shape(impl.RunState{})
	if shape(s) != nothing || len(list) > 0 || ok || shape(begun) != nothing || also || shape(folded) != nothing || len(past) > 0 {
		t.Errorf("%v%v: %s, %v, %s, %s, %v", lines, args, shape(s), list, shape(begun), shape(folded), past)
	}
}

// spaced is a text with a blank line ahead, and each space twice.
func spaced(text string) string {
	return "\n" + strings.ReplaceAll(text, " ", "  ")
}

// spacedAlike asks that a text, spaced, is read as the same, or has the same fault a line later; it tells that fault.
func spacedAlike(t *testing.T, text string) impl.FlowFault {
	t.Helper()
	lines, want := impl.FlowParse(text)
	wide, f := impl.FlowParse(spaced(text))
	if len(spaced(text)) > impl.FlowMaxText {
		lines, want = nil, impl.FlowFault{Code: impl.FlowTooLong}
	}
	if want.Line > 0 {
		want.Line++
	}
	if f != want || !same(lines, wide) {
		t.Fatalf("%q: %+v, asked for %+v; %v, asked for %v", text, f, want, wide, lines)
	}
	return f
}

// Promise 53: blank lines and spaces mean nothing.
func TestSpacedTexts(t *testing.T) {
	t.Parallel()
	r := rand.New(rand.NewSource(102))
	bytes := []byte(" \n\n  azundoelse0-\x00\xff\t\r")
	seen := map[string]int{}
	for n := range 6000 {
		text := made(r)
		if n%3 == 0 {
			lines, _ := livelyFlow(r)
			text = impl.FlowPrint(lines)
		}
		for range r.Intn(3) * r.Intn(2) {
			at := r.Intn(len(text) + 1)
			text = text[:at] + string(bytes[r.Intn(len(bytes))]) + text[at:]
		}
		f := spacedAlike(t, text)
		seen[fmt.Sprint("code ", f.Code)]++
		spacedAlike(t, spaced(text))
		spacedAlike(t, text+" \n \n")
	}
	cameOften(t, seen, map[string]int{"code 0": 1000, "code 1": 100, "code 2": 20, "code 4": 100, "code 5": 10, "code 6": 50, "code 7": 50})
}

func TestSpacedTextsAtTheLimits(t *testing.T) {
	short := "workflow w\nreturn 1"
	// Spaced, it has 22 bytes, and two more for each space more.
	for _, c := range []struct {
		spaces, code int
		tail         string
	}{{1988, 0, "\n"}, {1989, 0, ""}, {1989, impl.FlowTooLong, "\n"}, {1990, impl.FlowTooLong, ""}, {3979, impl.FlowTooLong, "\n\n"}, {3981, impl.FlowTooLong, ""}, {3982, impl.FlowTooLong, ""}} {
		text := short + strings.Repeat(" ", c.spaces) + c.tail
		if f := spacedAlike(t, text); f.Code != c.code || f.Line != 0 {
			t.Errorf("%d bytes, %d spaced: %+v", len(text), len(spaced(text)), f)
		}
	}
	many := func(count int) string { return "workflow w\n" + strings.Repeat("sleep 1\n", count-2) + "return 1" }
	for _, c := range []struct {
		text       string
		line, code int
	}{
		{many(60), 0, 0}, {many(61), 62, impl.FlowTooLong}, {strings.Repeat("\n", 70) + many(61), 132, impl.FlowTooLong},
		{"", 0, impl.FlowUneven}, {" ", 0, impl.FlowUneven}, {"\n  \n", 0, impl.FlowUneven},
		{"sleep 1", 2, impl.FlowUneven}, {"workflow w", 2, impl.FlowNoReturn}, {"\n\nworkflow w\n\n", 4, impl.FlowNoReturn}, {"workflow w\nif 1 less 2\nsleep 1\n\n", 4, impl.FlowUneven},
		{"workflow w\nreturn b", 3, impl.FlowUnknown}, {"workflow w\n\treturn 1", 3, impl.FlowBadLine}, {"workflow w\nreturn 1\r\n", 3, impl.FlowBadLine},
		{"workflow w\ndo a x undo\nreturn a", 3, impl.FlowUnknown}, {"workflow w undo\ndo a x undo\nreturn a", 0, 0}, {"workflow w\nreturn\n1", 3, impl.FlowBadLine},
	} {
		if f := spacedAlike(t, c.text); f != (impl.FlowFault{Line: c.line, Code: c.code}) {
			t.Errorf("%q: %+v, asked for line %d, code %d", c.text, f, c.line, c.code)
		}
	}
}

// secondAnswers are all that may come to a question that was answered, right or wrong.
func secondAnswers(id int) []impl.RunHap {
	return haps(done(id, 1), done(id, 10000), broke(id, 0), broke(id, -10000), fired(id), impl.RunHap{Kind: impl.HapFired, Id: id, Name: "go", Num: 10000})
}

// countsNot asks that something is refused, by 3, or by 2, if the run stands, and changes nothing, with any marks, live or not.
func countsNot(t *testing.T, r *rand.Rand, lines []impl.FlowLine, s impl.RunState, h impl.RunHap) {
	t.Helper()
	want := 3
	if s.Stands != impl.RunLive {
		want = 2
	}
	marks := [][]string{nil, {"p"}, {"q", "r"}}[r.Intn(3)]
	kept := shape(s)
	x, code := impl.RunDo(lines, s, h, marks, r.Intn(2) == 0)
	if code != want || shape(x) != kept || shape(s) != kept {
		t.Fatalf("%s%+v: code %d, asked for %d; %s became %s", impl.FlowPrint(lines), h, code, want, kept, shape(x))
	}
}

// Promise 54: an answer counts once, by itself, and in a history.
func TestAnswersCountOnce(t *testing.T) {
	t.Parallel()
	r := rand.New(rand.NewSource(103))
	seen := map[string]int{}
	for n := range 160 {
		lines, args := livelyFlow(r)
		list := impl.HistOf(lines, args, nil, nil, 0)
		s := begun(t, lines, args...)
		for range 25 {
			for _, a := range s.Asks {
				first := fired(a.Id)
				if a.Name != "" {
					first = haps(done(a.Id, r.Intn(9)-2), done(a.Id, 9999), broke(a.Id, r.Intn(5)))[r.Intn(3)]
				}
				x, code := impl.RunDo(lines, s, first, nil, true)
				if code != 0 {
					t.Fatalf("%s%+v of %s: code %d", impl.FlowPrint(lines), first, shape(s), code)
				}
				for _, h := range secondAnswers(a.Id) {
					countsNot(t, r, lines, x, h)
				}
				seen[fmt.Sprint("stands ", x.Stands, x.Ending)]++
				if n%4 == 0 {
					more := grows(t, lines, list, first)
					for _, h := range secondAnswers(a.Id)[:3] {
						stays(t, lines, more, h, map[bool]int{true: 3, false: 2}[x.Stands == impl.RunLive])
					}
				}
			}
			if s.Stands != impl.RunLive || len(list) > 150 {
				break
			}
			h := anyHap(r, s)
			if r.Intn(20) == 0 {
				h = cancel()
			}
			if next, code := impl.RunDo(lines, s, h, nil, true); code == 0 {
				s = next
				if n%4 == 0 {
					list = grows(t, lines, list, h)
				}
			}
		}
	}
	cameOften(t, seen, map[string]int{"stands 0 false": 300, "stands 0 true": 30, "stands 1 false": 10, "stands 2 false": 20, "stands 4 false": 5})
}

// At the last Id, too, and by 2 ahead of 3, if the run stands behind the first answer.
func TestAnswersCountOnceAtTheLastId(t *testing.T) {
	r := rand.New(rand.NewSource(104))
	lines := flow(t, "workflow w|do a x undo y|do b x a|get c go for 3|return b")
	for _, next := range []int{2, impl.RunMaxId - 1, impl.RunMaxId, impl.RunMaxId + 1} {
		s := withNext(begun(t, lines), next)
		x := came(t, lines, s, done(next-1, 4))
		if stands := x.Stands == impl.RunFailed; stands != (next == impl.RunMaxId+1) {
			t.Errorf("next %d: %s", next, shape(x))
		}
		for _, h := range append(secondAnswers(next-1), secondAnswers(0)...) {
			countsNot(t, r, lines, x, h)
		}
	}
	// A signal that comes ahead of its time takes the question away, and so does what breaks.
	s := came(t, lines, begun(t, lines), done(1, 2), done(2, 3))
	for _, first := range haps(signal("go", 1), fired(3), cancel()) {
		x := came(t, lines, s, first)
		for _, id := range []int{1, 2, 3} {
			for _, h := range secondAnswers(id) {
				countsNot(t, r, lines, x, h)
			}
		}
	}
	// Of a state that is not ok nothing is said.
	s.Next = 1
	for _, h := range secondAnswers(3) {
		turnedDown(t, lines, s, h, 1)
	}
}

// anyEnd is a run that has ended, in any way, and its history.
func anyEnd(t *testing.T, r *rand.Rand) ([]impl.FlowLine, impl.RunState, []impl.HistEntry) {
	t.Helper()
	for {
		lines, args := livelyFlow(r)
		list := impl.HistOf(lines, args, anySignals(r), []int{r.Intn(7), r.Intn(7)}, r.Intn(40))
		for range 60 {
			s, f := impl.HistReplay(lines, list)
			if f.Code == 0 && s.Stands != impl.RunLive {
				return lines, s, list
			}
			list, _ = impl.HistMore(lines, list, anyHap(r, s))
		}
	}
}

// allThatMayCome are things of each kind, right and wrong, and of such as are none.
func allThatMayCome(next int) []impl.RunHap {
	list := []impl.RunHap{{Kind: -1}, {}, {Kind: 6}, {Kind: math.MinInt}, {Kind: math.MaxInt, Id: 1, Name: "go", Num: 1}}
	for kind := impl.HapDone; kind <= impl.HapCancel; kind++ {
		for _, id := range []int{0, 1, next - 1, next, math.MaxInt} {
			list = append(list, impl.RunHap{Kind: kind, Id: id, Name: "go", Num: 1}, impl.RunHap{Kind: kind, Id: id, Num: 10000})
		}
	}
	return list
}

// Promise 55: a run that has ended never changes again.
func TestEndedRunsNeverChange(t *testing.T) {
	t.Parallel()
	r := rand.New(rand.NewSource(105))
	seen := map[int]int{}
	for n := range 120 {
		lines, s, list := anyEnd(t, r)
		seen[s.Stands]++
		kept := shape(s)
		for _, h := range allThatMayCome(s.Next) {
			x, code := impl.RunDo(lines, s, h, []string{"p"}[:r.Intn(2)], r.Intn(2) == 0)
			if code != 2 || shape(x) != kept || shape(s) != kept {
				t.Fatalf("%s%+v: code %d, %s became %s", impl.FlowPrint(lines), h, code, kept, shape(x))
			}
			if n%5 == 0 {
				stays(t, lines, list, h, 2)
			}
		}
		// What is spoilt is not ok, and that is ahead of it.
		x := copyState(s)
		x.Ending = true
		for _, h := range haps(cancel(), done(1, 1), impl.RunHap{Kind: 9}) {
			turnedDown(t, lines, x, h, 1)
		}
	}
	for _, stands := range []int{impl.RunDone, impl.RunFailed, impl.RunAnew, impl.RunStopped} {
		if seen[stands] < 3 {
			t.Errorf("stands %d came %d times", stands, seen[stands])
		}
	}
}

// cancelledTwice asks that another cancelling changes nothing; it tells how the run is behind the first.
func cancelledTwice(t *testing.T, lines []impl.FlowLine, s impl.RunState) impl.RunState {
	t.Helper()
	once, code := impl.RunDo(lines, s, cancel(), nil, true)
	if want := map[bool]int{false: 2}[s.Stands == impl.RunLive]; code != want {
		t.Fatalf("%s%s: code %d, asked for %d", impl.FlowPrint(lines), shape(s), code, want)
	}
	twice, code := impl.RunDo(lines, once, cancel(), nil, true)
	if want := map[bool]int{false: 2}[once.Stands == impl.RunLive]; code != want || shape(twice) != shape(once) {
		t.Fatalf("%s%s, cancelled again: code %d, %s", impl.FlowPrint(lines), shape(once), code, shape(twice))
	}
	return once
}

// Promise 56: cancelling twice is cancelling once, wherever a run is, and also by its history.
func TestCancellingTwice(t *testing.T) {
	t.Parallel()
	r := rand.New(rand.NewSource(106))
	seen := map[string]int{}
	for range 250 {
		lines, args := livelyFlow(r)
		list := impl.HistOf(lines, args, anySignals(r), []int{r.Intn(7)}, r.Intn(12))
		s, f := impl.HistReplay(lines, list)
		if f.Code != 0 {
			continue
		}
		for range 8 {
			once := cancelledTwice(t, lines, s)
			seen[fmt.Sprint("stands ", s.Stands, s.Ending, " and then ", once.Stands, once.Ending)]++
			more, code := impl.HistMore(lines, list, cancel())
			if once.Ending {
				again := grows(t, lines, more, cancel())
				replays(t, lines, again, once)
			} else {
				stays(t, lines, more, cancel(), 2)
			}
			if code == 0 && r.Intn(3) == 0 {
				list, s = more, once
				continue
			}
			if more, code := impl.HistMore(lines, list, anyHap(r, s)); code == 0 {
				list = more
				s, _ = impl.HistReplay(lines, list)
			}
		}
	}
	cameOften(t, seen, map[string]int{"stands 0 false and then 0 true": 100, "stands 0 true and then 0 true": 50, "stands 0 false and then 4 false": 50, "stands 1 false and then 1 false": 20, "stands 2 false and then 2 false": 10, "stands 4 false and then 4 false": 50})
}

func TestCancellingTwiceAtTheLimits(t *testing.T) {
	lines := flow(t, "workflow w|let i is 0|while i less 40|do a x undo y|let i add i 1|end|get b go|return b")
	s := begun(t, lines)
	for id := 1; id <= impl.RunMaxUndo; id++ {
		s = came(t, lines, s, done(id, 1))
	}
	for _, c := range []struct {
		next, undo, stands int
	}{{41, 39, 0}, {impl.RunMaxId, 39, 0}, {impl.RunMaxId + 1, 39, impl.RunFailed}} {
		once := cancelledTwice(t, lines, withNext(s, c.next))
		if len(once.Undo) != c.undo || once.Stands != c.stands || once.Ending != (c.stands == 0) {
			t.Errorf("next %d: %s", c.next, shape(once))
		}
	}
	// A run that broke, or fails, ends as it did: that it is cancelled then changes nothing.
	for _, text := range []string{"workflow w|do a x undo y|fail 3", "workflow w|do a x undo y|let a mul 9999 9999|return a", "workflow w|do a x undo y|do b x|return b"} {
		lines := flow(t, text)
		s := came(t, lines, begun(t, lines), done(1, 1))
		if len(s.Threads) > 0 {
			s = came(t, lines, s, broke(2, 3))
		}
		if once := cancelledTwice(t, lines, s); !s.Ending || shape(once) != shape(s) {
			t.Errorf("%s: %s became %s", text, shape(s), shape(once))
		}
	}
	// A box that is full is no matter, and a state that is not ok says nothing.
	full := copyState(s)
	full.Box = manyVars(impl.RunMaxBox)
	cancelledTwice(t, lines, full)
	full.Box = manyVars(impl.RunMaxBox + 1)
	turnedDown(t, lines, full, cancel(), 1)
}

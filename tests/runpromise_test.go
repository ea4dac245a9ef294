package tests

import (
	"fmt"
	"math/rand"
	"regexp"
	"slices"
	"strings"
	"testing"

	"loop.example/dunlin/impl"
)

// anyHap is mostly something that may happen to a run as it stands.
func anyHap(r *rand.Rand, s impl.RunState) impl.RunHap {
	if len(s.Asks) > 0 && r.Intn(10) < 7 {
		a := s.Asks[r.Intn(len(s.Asks))]
		switch {
		case a.Name == "":
			return fired(a.Id)
		case r.Intn(40) == 0:
			return broke(a.Id, r.Intn(9)-4)
		}
		return done(a.Id, r.Intn(9)-2)
	}
	switch r.Intn(12) {
	case 0:
		if r.Intn(4) == 0 {
			return cancel()
		}
	case 1:
		return impl.RunHap{Kind: r.Intn(8) - 1, Id: r.Intn(s.Next + 2), Name: []string{"", "go", "Go", "toolongname"}[r.Intn(4)], Num: []int{0, 9999, 10000, -9999, -10000}[r.Intn(5)]}
	case 2, 3, 4:
		return signal("other", r.Intn(9))
	}
	return signal([]string{"go", "no"}[r.Intn(2)], r.Intn(9)-2)
}

// Nothing that happens to a run spoils it, what is refused changes nothing, and all is as a second reckoning says.
func TestRunsByASecondReckoning(t *testing.T) {
	t.Parallel()
	r := rand.New(rand.NewSource(11))
	seen := map[string]int{}
	for range 1500 {
		lines, args := livelyFlow(r)
		m := modelOf(lines, args, nil)
		s, ok := impl.RunStart(lines, args, nil, true)
		if !ok {
			t.Fatal(impl.FlowPrint(lines))
		}
		for range 60 {
			heldToModel(t, lines, s, m)
			if t.Failed() {
				t.Fatalf("%s%v", impl.FlowPrint(lines), args)
			}
			seen[fmt.Sprint("stands ", s.Stands, s.Ending)]++
			seen[fmt.Sprint("threads ", len(s.Threads))]++
			h := anyHap(r, s)
			before := shape(s)
			next, code := impl.RunDo(lines, s, h, nil, true)
			seen[fmt.Sprint("code ", code)]++
			if want := m.happens(h); code != want || shape(s) != before || code != 0 && shape(next) != before {
				t.Fatalf("%s%+v behind %s: code %d, asked for %d", impl.FlowPrint(lines), h, before, code, want)
			}
			s = next
			if s.Stands != 0 && r.Intn(4) == 0 {
				seen[fmt.Sprint("result ", s.Result)]++
				break
			}
		}
	}
	for _, what := range []string{"stands 0 false", "stands 0 true", "stands 1 false", "stands 2 false", "stands 3 false", "stands 4 false", "threads 1", "threads 3", "threads 5", "threads 7", "code 0", "code 2", "code 3", "code 5", "result -9001", "result -9002", "result -9003"} {
		if seen[what] == 0 {
			t.Errorf("no %s: %v", what, seen)
		}
	}
}

var boardRows = regexp.MustCompile(`^(live|done|failed|anew|stopped) -?\d+( -?\d+)*( ending)?\n([a-z][a-z0-9]* -?\d+\n)*(at [01]*:\d+\n)*(ask \d+ [0-9.-]+ [a-z][a-z0-9]*( -?\d+)*\n)*$`)

func heldToModel(t *testing.T, lines []impl.FlowLine, s impl.RunState, m *model) {
	t.Helper()
	if shape(s) != shape(m.state()) {
		t.Errorf("%s, asked for %s", shape(s), shape(m.state()))
	}
	if !impl.RunOk(lines, s) {
		t.Errorf("not ok: %s", shape(s))
	}
	board := impl.RunBoard(lines, s)
	if !boardRows.MatchString(board) || strings.Count(board, "\n") != 1+len(s.Vars)+len(s.Threads)+len(s.Asks) {
		t.Errorf("board %q of %s", board, shape(s))
	}
	if s.Stands == impl.RunLive && len(s.Asks) == 0 && !slices.ContainsFunc(s.Threads, func(th impl.RunThread) bool { return th.Wait == impl.WaitGet }) {
		t.Errorf("live, and waits for nothing: %s", shape(s))
	}
}

// endOfPlay is how a run stands at last, as far as no order of answers matters.
func endOfPlay(s impl.RunState) string {
	text := fmt.Sprint(s.Stands, s.Ending, s.Result, s.Args)
	if s.Stands == impl.RunDone || s.Stands == impl.RunLive {
		text += fmt.Sprint(s.Vars)
	}
	return text
}

// In whichever order the answers come, it ends the same.
func TestOrderOfAnswers(t *testing.T) {
	t.Parallel()
	r := rand.New(rand.NewSource(12))
	ends, waits := 0, 0
	for range 1500 {
		lines, args := livelyFlow(r)
		var signals []impl.RunVar
		for range r.Intn(6) {
			signals = append(signals, vars("go 1", "no 2", "go 3", "x 4")[r.Intn(4)])
		}
		end := ""
		for i := range 6 {
			var picks []int
			for range i * 3 {
				picks = append(picks, r.Intn(40)-20)
			}
			s, _ := impl.RunPlay(lines, args, signals, picks, impl.RunMaxPlay)
			if len(s.Asks) > 0 || s.Result == impl.RunBusy {
				break
			}
			if end == "" {
				end = endOfPlay(s)
			}
			if endOfPlay(s) != end {
				t.Fatalf("%s%v %v %v: %s, and %s", impl.FlowPrint(lines), args, signals, picks, end, endOfPlay(s))
			}
			ends++
			if s.Stands == impl.RunLive {
				waits++
			}
		}
	}
	if ends < 4000 || waits < 100 {
		t.Errorf("%d runs came to an end, %d wait for a signal", ends, waits)
	}
}

// allOrders answers the asks of a run in each order, and tells how it stands at last.
func allOrders(lines []impl.FlowLine, s impl.RunState, seen map[string]bool, ends map[string]bool) {
	if key := shape(s); seen[key] {
		return
	} else {
		seen[key] = true
	}
	if len(s.Asks) == 0 {
		ends[endOfPlay(s)] = true
	}
	for _, a := range s.Asks {
		h := fired(a.Id)
		if a.Name != "" {
			h = done(a.Id, impl.RunAnswer(a))
		}
		next, _ := impl.RunDo(lines, s, h, nil, true)
		allOrders(lines, next, seen, ends)
	}
}

func TestEveryOrderOfAnswers(t *testing.T) {
	t.Parallel()
	for _, text := range []string{
		"workflow w|both|do a x|do b y a|and|sleep 1|do c z|end|do d v b c|return d",
		"workflow w|both|do a x|both|do b x|and|do c y a|end|do d z b c|and|do e v|get f go for 3|end|do g u d e f|return g",
		"workflow w|both|both|do a x|and|do b x|end|and|both|do c x|and|do d x|end|end|let e add a b|let f add c d|next e f",
		"workflow w|both|do a x undo y|and|do b x undo z|end|let c sub a b|do d v c|fail d",
		"workflow w|both|do a x|let a mul 9999 9999|and|do b x|sleep b|end|return a",
		"workflow w|both|do a x|get b go|and|do c x|do d x|end|return a",
		"workflow w|let i is 0|let b is 0|while i less 2|both|do a x i|and|do b x i|do b y b|end|let i add i 1|end|return b",
	} {
		lines := flow(t, text)
		seen, ends := map[string]bool{}, map[string]bool{}
		allOrders(lines, begun(t, lines), seen, ends)
		if len(ends) != 1 || len(seen) < 5 {
			t.Errorf("%s: ends %v", text, ends)
		}
	}
}

// No two asks of a run have one key, and what is undone has that of what was done, with a stroke.
func TestKeysOfAsks(t *testing.T) {
	t.Parallel()
	r := rand.New(rand.NewSource(13))
	undone := 0
	for range 1500 {
		lines, args := livelyFlow(r)
		s := begun(t, lines, args...)
		keys := map[string]int{}
		ids := map[int]bool{}
		worked := map[string]impl.RunAsk{}
		for range 60 {
			for _, a := range s.Asks {
				if ids[a.Id] {
					continue
				}
				ids[a.Id] = true
				keys[a.Key]++
				if s.Ending {
					undone++
					if _, there := worked[strings.TrimSuffix(a.Key, "-")]; !there || !strings.HasSuffix(a.Key, "-") {
						t.Fatalf("%s%+v undoes nothing that was done", impl.FlowPrint(lines), a)
					}
				} else if strings.Contains(a.Key, "-") {
					t.Fatalf("%s%+v undoes something", impl.FlowPrint(lines), a)
				}
				if keys[a.Key] > 1 {
					t.Fatalf("%s%s is a key twice", impl.FlowPrint(lines), a.Key)
				}
				worked[a.Key] = a
			}
			s, _ = impl.RunDo(lines, s, anyHap(r, s), nil, true)
		}
	}
	if undone < 100 {
		t.Errorf("%d were undone", undone)
	}
}

// A run that is cancelled asks for all of Undo, the last first, each with what came of it, and is stopped behind that.
func TestCancelledRunsUndo(t *testing.T) {
	t.Parallel()
	r := rand.New(rand.NewSource(14))
	counts := map[int]int{}
	for range 2500 {
		lines, args := livelyFlow(r)
		s := begun(t, lines, args...)
		for range r.Intn(30) {
			if next, code := impl.RunDo(lines, s, anyHap(r, s), nil, true); code == 0 && next.Stands == impl.RunLive && !next.Ending {
				s = next
			}
		}
		if s.Stands != impl.RunLive || s.Ending {
			continue
		}
		list := slices.Clone(s.Undo)
		counts[len(list)]++
		next := s.Next
		s = came(t, lines, s, cancel())
		for i := len(list) - 1; i >= 0; i-- {
			want := someAsk(next, list[i].Key+"-", list[i].Name, list[i].Args...)
			if !s.Ending || s.Result != impl.RunCancel || fmt.Sprint(s.Asks) != fmt.Sprint([]impl.RunAsk{want}) || len(s.Undo) != i {
				t.Fatalf("%s%+v, asked for %+v", impl.FlowPrint(lines), s, want)
			}
			s = came(t, lines, s, haps(done(next, 5), broke(next, -5))[r.Intn(2)])
			next++
		}
		if s.Stands != impl.RunStopped || s.Result != impl.RunCancel || s.Next != next {
			t.Fatalf("%s%+v", impl.FlowPrint(lines), s)
		}
	}
	for count := range 4 {
		if counts[count] == 0 {
			t.Errorf("never %d to be undone: %v", count, counts)
		}
	}
}

// RunFold of what happened is RunFold of the first part, and then RunDo of the rest.
func TestFoldInTwoParts(t *testing.T) {
	t.Parallel()
	r := rand.New(rand.NewSource(15))
	for range 400 {
		lines, args := livelyFlow(r)
		s := begun(t, lines, args...)
		var list []impl.RunHap
		states := []string{shape(s)}
		for range 25 {
			h := anyHap(r, s)
			if next, code := impl.RunDo(lines, s, h, nil, true); code == 0 {
				s = next
				list = append(list, h)
				states = append(states, shape(s))
			} else if f, ok := impl.RunFold(lines, args, append(slices.Clone(list), h)); ok || shape(f) != shape(impl.RunState{}) {
				t.Fatalf("%s%v and %+v: folded", impl.FlowPrint(lines), list, h)
			}
		}
		for i := range len(list) + 1 {
			f, ok := impl.RunFold(lines, args, list[:i])
			if !ok || shape(f) != states[i] {
				t.Fatalf("%s%v: %v, %s, asked for %s", impl.FlowPrint(lines), list[:i], ok, shape(f), states[i])
			}
			for _, h := range list[i:] {
				f, _ = impl.RunDo(lines, f, h, nil, true)
			}
			if shape(f) != shape(s) {
				t.Fatalf("%s%v: %s, asked for %s", impl.FlowPrint(lines), list, shape(f), shape(s))
			}
		}
	}
}

// again does all that happened to a run, with other patches.
func again(t *testing.T, lines []impl.FlowLine, args []int, list []impl.RunHap, marks []string, live bool) (impl.RunState, int) {
	t.Helper()
	s, ok := impl.RunStart(lines, args, marks, live)
	if !ok {
		t.Fatal("not begun")
	}
	for i, h := range list {
		next, code := impl.RunDo(lines, s, h, marks, live)
		if !impl.RunOk(lines, next) {
			t.Fatalf("not ok: %+v", next)
		}
		if code != 0 {
			return s, i
		}
		s = next
	}
	return s, len(list)
}

// A run that was live, done again with the patches that it had as marks, comes just as far.
func TestPatchesDoneAgain(t *testing.T) {
	t.Parallel()
	r := rand.New(rand.NewSource(16))
	patched, parted := 0, 0
	for range 1500 {
		lines, args := livelyFlow(r)
		m := modelOf(lines, args, map[string]bool{})
		s, list := impl.RunPlay(lines, args, vars("go 1", "no 2", "go 3"), []int{r.Intn(5), r.Intn(5)}, 30)
		var marks []string
		for _, v := range s.Marks {
			if v.Num != 1 {
				t.Fatalf("%s%+v: live, and not there", impl.FlowPrint(lines), v)
			}
			marks = append(marks, v.Name)
		}
		if len(marks) > 0 {
			patched++
		}
		for _, given := range [][]string{marks, append([]string{"x", ""}, append(marks, marks...)...)} {
			if f, _ := again(t, lines, args, list, given, false); shape(f) != shape(s) {
				t.Fatalf("%s%s, asked for %s", impl.FlowPrint(lines), shape(f), shape(s))
			}
		}
		bare, far := again(t, lines, args, list, nil, false)
		for _, h := range list[:far] {
			m.happens(h)
		}
		if slices.ContainsFunc(bare.Marks, func(v impl.RunVar) bool { return v.Num != 0 }) || shape(bare) != shape(m.state()) {
			t.Fatalf("%s%+v, asked for %+v", impl.FlowPrint(lines), bare, m.state())
		}
		if shape(bare) != shape(s) {
			parted++
		}
	}
	if patched < 300 || parted < 300 {
		t.Errorf("%d had patches, %d came elsewhere without", patched, parted)
	}
}

// Nothing that is handed in is changed, also behind its end; answers share no memory with it, nor lists of one answer with each other.
func TestRunsAreNewMemory(t *testing.T) {
	t.Parallel()
	r := rand.New(rand.NewSource(17))
	for range 300 {
		lines, args := livelyFlow(r)
		for i := range lines {
			lines[i].Args = roomy(lines[i].Args, "behind")
		}
		lines = roomy(lines, impl.FlowLine{Kind: 77})
		args = roomy(args, 77)
		marks := roomy([]string{"p", "q"}, "behind")
		given := slices.Concat(spansOfLines("lines", lines), spanOf("args", args), spanOf("marks", marks))
		wholeInput := func() string {
			text := fmt.Sprint(lines[:cap(lines)], args[:cap(args)], marks[:cap(marks)])
			for _, l := range lines {
				text += fmt.Sprint(l.Args[:cap(l.Args)])
			}
			return text
		}
		before := wholeInput()
		s, _ := impl.RunStart(lines, args, marks, false)
		lieApart(t, given, spansOf("begun", s))
		for range 20 {
			s = roomyState(s)
			h := anyHap(r, s)
			kept := whole(s)
			next, code := impl.RunDo(lines, s, h, marks, false)
			if whole(s) != kept || wholeInput() != before {
				t.Fatalf("%+v changed %s to %s", h, kept, whole(s))
			}
			lieApart(t, given, spansOf("ahead", s), spansOf("behind", next))
			impl.RunOk(lines, s)
			impl.RunBoard(lines, s)
			if whole(s) != kept || t.Failed() {
				t.Fatalf("%+v, code %d: %s", h, code, kept)
			}
			s = next
		}
		signals, picks := roomy(vars("go 1", "x 2", "no 3"), impl.RunVar{Num: 77}), roomy([]int{1, 0, 2}, 77)
		p, list := impl.RunPlay(lines, args, signals, picks, 25)
		lieApart(t, given, spanOf("signals", signals), spanOf("picks", picks), spanOf("haps", list), spansOf("played", p))
		f, _ := impl.RunFold(lines, args, list)
		lieApart(t, given, spanOf("haps", list), spansOf("folded", f))
		list = roomy(list, impl.RunHap{Kind: 77})
		impl.RunFold(lines, args, list)
		if fmt.Sprint(signals[:6]) != "[{go 1} {x 2} {no 3} { 77} { 77} { 77}]" || fmt.Sprint(picks[:6]) != "[1 0 2 77 77 77]" || list[:len(list)+1][len(list)].Kind != 77 || wholeInput() != before {
			t.Fatal("what was played was changed")
		}
	}
}

// Asked twice, or at once from many sides, the same is answered.
func TestRunsHangOnNothingElse(t *testing.T) {
	t.Parallel()
	r := rand.New(rand.NewSource(18))
	for range 100 {
		lines, args := livelyFlow(r)
		signals, picks := vars("go 1", "no 2"), []int{r.Intn(5), r.Intn(5)}
		s, list := impl.RunPlay(lines, args, signals, picks, 50)
		want := shape(s) + fmt.Sprint(list)
		got := make(chan string)
		for range 8 {
			go func() {
				x, l := impl.RunPlay(lines, args, signals, picks, 50)
				got <- shape(x) + fmt.Sprint(l)
			}()
		}
		for range 8 {
			if x := <-got; x != want {
				t.Errorf("%s%s, and %s", impl.FlowPrint(lines), want, x)
			}
		}
	}
}

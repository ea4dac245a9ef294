package tests

import (
	"fmt"
	"math/rand"
	"slices"
	"strings"
	"testing"

	"loop.example/dunlin/impl"
)

// cutsReplayed asks that each beginning of a history, up to what came next, is replayed without a fault, if it is not too long; it tells how many are.
func cutsReplayed(t *testing.T, lines []impl.FlowLine, list []impl.HistEntry) int {
	t.Helper()
	cuts := 0
	last := -1
	for _, place := range quiet(list) {
		s, f := impl.HistReplay(lines, list[:place])
		if place > impl.HistMaxLen {
			if f != (impl.HistFault{Code: impl.HistBad}) || shape(s) != shape(impl.RunState{}) {
				t.Fatalf("%d entries: %+v", place, f)
			}
			continue
		}
		if f.Code != 0 || !impl.RunOk(lines, s) {
			t.Fatalf("%s%s, cut at %d: %+v", impl.FlowPrint(lines), rowsBy(list), place, f)
		}
		if last >= 0 && s.Next < last {
			t.Fatalf("%s%s, cut at %d, has not come as far as ahead of it", impl.FlowPrint(lines), rowsBy(list), place)
		}
		last = s.Next
		cuts++
	}
	return cuts
}

// Promise 57: a history that is cut off where it was quiet is a history, too.
func TestHistoriesCutOffWhereTheyWereQuiet(t *testing.T) {
	t.Parallel()
	r := rand.New(rand.NewSource(111))
	cuts, unquiet := 0, 0
	for range 350 {
		lines, args := livelyFlow(r)
		list := impl.HistOf(lines, args, anySignals(r), []int{r.Intn(7), r.Intn(7)}, []int{0, 3, 20, 40}[r.Intn(4)])
		kept := histShape(list)
		cuts += cutsReplayed(t, lines, list)
		// Cut off elsewhere it is none: something that the run says is missing, or it has not begun. (Without a patch's mark it may say something else.)
		marked := slices.ContainsFunc(list, func(e impl.HistEntry) bool { return e.Kind == impl.EntMark })
		for place := range list {
			if marked || slices.Contains(quiet(list), place) {
				continue
			}
			unquiet++
			if _, f := impl.HistReplay(lines, list[:place]); f.Code == 0 {
				t.Fatalf("%s%s, cut at %d, has no fault", impl.FlowPrint(lines), rowsBy(list), place)
			}
		}
		if histShape(list) != kept {
			t.Fatalf("%s became %s", kept, histShape(list))
		}
	}
	if cuts < 1500 || unquiet < 500 {
		t.Errorf("%d cuts, %d elsewhere", cuts, unquiet)
	}
}

// A history of as many entries as there may be, and more, by how many signals came first.
func TestHistoriesCutOffAtTheLimit(t *testing.T) {
	lines := flow(t, "workflow w|let i is 0|while i less 199|do a x i|let i add i 1|end|return i")
	for signals, size := range map[int]int{0: 400, 1: 401, 2: 402, 20: 420} {
		list := impl.HistOf(lines, nil, slices.Repeat(vars("go 1"), signals), nil, 200)
		if len(list) != size {
			t.Fatalf("%d signals: %d entries", signals, len(list))
		}
		cuts := cutsReplayed(t, lines, list)
		// Behind the signals there is one cut ahead of each answer, and the last at the end.
		want := signals + 200
		for place := range quiet(list) {
			if quiet(list)[place] > impl.HistMaxLen {
				want--
			}
		}
		if cuts != want || signals == 2 && !slices.Contains(quiet(list), impl.HistMaxLen) {
			t.Errorf("%d signals: %d cuts, asked for %d", signals, cuts, want)
		}
	}
	if s, f := impl.HistReplay(lines, nil); f != (impl.HistFault{Code: impl.HistBad}) || shape(s) != shape(impl.RunState{}) {
		t.Errorf("nothing: %+v", f)
	}
	if list := impl.HistOf(lines[:3], nil, nil, nil, 9); len(list) > 0 {
		t.Errorf("a workflow that is wrong: %v", list)
	}
}

// Promise 58: a workflow that is not changed breaks nothing.
func TestLooksAtWhatIsNotChanged(t *testing.T) {
	t.Parallel()
	r := rand.New(rand.NewSource(112))
	seen := map[int]int{}
	looked := func(lines []impl.FlowLine) {
		given := roomyLines(lines)
		code, list := impl.VerLook(given, deepCopy(lines))
		if code == 1 || len(list) > 0 {
			t.Fatalf("%s%d, %s", impl.FlowPrint(lines), code, rowsBy(list))
		}
		if again, _ := impl.VerLook(given, given); again != code {
			t.Fatalf("%s%d, and %d", impl.FlowPrint(lines), code, again)
		}
		seen[code]++
	}
	for n := range 110 {
		lines, _ := livelyFlow(r)
		looked(lines)
		if n%2 == 0 {
			looked(calledAnyhow(r, flow(t, shortFlows[r.Intn(len(shortFlows))])))
		}
	}
	for _, text := range slices.Concat(jobFlows, siteFlows, []string{tripFlow, payFlow, blocksFlow, plainFlow, deepFlow, "workflow w a b c|next a b c"}) {
		looked(flow(t, text))
	}
	if seen[0] < 20 || seen[2] < 20 {
		t.Errorf("%v", seen)
	}
	// Of what is wrong it says nothing.
	for _, text := range []string{"workflow w", "workflow w|return a", "return 1", ""} {
		wrong := linesBy(t, text)
		for _, pair := range [][2][]impl.FlowLine{{wrong, wrong}, {wrong, flow(t, tinyFlow)}, {flow(t, tinyFlow), wrong}} {
			if code, list := impl.VerLook(pair[0], pair[1]); code != 2 || len(list) > 0 {
				t.Errorf("%q: %d, %v", text, code, list)
			}
		}
	}
}

// changedTwice is a workflow that was swapped, and then had something put in at a place under another name; false, if one of both is not let.
func changedTwice(t *testing.T, r *rand.Rand, lines []impl.FlowLine, at func(swapped []impl.FlowLine) int) (once, twice []impl.FlowLine, ok bool) {
	t.Helper()
	from, to, name, more := anySwap(t, r, lines)
	once, ok = impl.VerSwap(lines, from, to, name, more)
	if !ok {
		return nil, nil, false
	}
	put := anyStretch(t, r)
	if r.Intn(2) == 0 {
		put = linesOf(t, []string{"sleep 2", "do a z 1", "let a is 4", "get a so for 2"}[r.Intn(4)])
	}
	if twice, ok = impl.VerInsert(once, at(once), name, put); ok || len(twice) > 0 {
		t.Fatalf("%s%q put in twice: %s", impl.FlowPrint(once), name, impl.FlowPrint(twice))
	}
	twice, ok = impl.VerInsert(once, at(once), "two", put)
	return once, twice, ok
}

// Promise 59: two changes, each in a patch of its own, are as safe as one.
func TestTwoChangesAreAsSafeAsOne(t *testing.T) {
	t.Parallel()
	r := rand.New(rand.NewSource(113))
	seen := map[string]int{}
	for range 1500 {
		lines, args := livelyFlow(r)
		at := 1 + r.Intn(len(lines))
		once, twice, ok := changedTwice(t, r, lines, func(swapped []impl.FlowLine) int { return min(at, len(swapped)-1) })
		if !ok {
			seen["not let"]++
			continue
		}
		if len(twice) <= len(once) || impl.FlowCheck(twice).Code != 0 {
			t.Fatalf("%s", impl.FlowPrint(twice))
		}
		for range 4 {
			list := anyPast(r, lines, args)
			doneAlike(t, lines, twice, list)
			s, _ := impl.HistReplay(lines, list)
			seen[fmt.Sprint("stands ", s.Stands, s.Ending)]++
			if more := anyPast(r, once, args); rowsBy(more) != rowsBy(list) {
				doneAlike(t, once, twice, more)
				seen["of the one changed once"]++
			}
		}
	}
	cameOften(t, seen, map[string]int{"not let": 200, "stands 0 false": 300, "stands 0 true": 10, "stands 1 false": 200, "stands 2 false": 50, "stands 3 false": 20, "stands 4 false": 5, "of the one changed once": 200})
}

// Wherever the two patches stand, also one within the other, a run that does the most steps at once, and the longest history, stay as they were.
func TestTwoChangesOfBusyRuns(t *testing.T) {
	t.Parallel()
	more := linesOf(t, "let i is 3")
	for _, c := range []struct {
		text string
		most int
	}{
		{"workflow w|let i is 0|while i less 66|let j is 1|let i add i 1|end|return i", 9},
		{"workflow w|let i is 0|while i less 67|let j is 1|let i add i 1|end|return i", 9},
		{"workflow w|let i is 0|while i less 199|do a x i|let i add i 1|end|return i", 200},
		{"workflow w|both|do i x undo y|do j x i|and|sleep 3|end|if i less 0|fail i|end|return j", 9},
	} {
		lines := flow(t, c.text)
		list := impl.HistOf(lines, nil, nil, nil, c.most)
		for from := 1; from < len(lines); from++ {
			for to := from; to <= len(lines); to += 1 + len(list)/50 {
				once, ok := impl.VerSwap(lines, from, to, "one", more)
				for at := 1; ok && at < len(once); at += 1 + len(list)/100 {
					if twice, ok := impl.VerInsert(once, at, "two", more); ok {
						doneAlike(t, lines, twice, list)
					}
				}
			}
		}
	}
}

// What is not let comes to nothing, and breaks nothing that stands there.
func TestTwoChangesThatAreNotLet(t *testing.T) {
	lines, more := flow(t, payFlow), linesOf(t, "sleep 2")
	once, ok := impl.VerSwap(lines, 1, 2, "one", linesOf(t, "do a mail n"))
	if !ok {
		t.Fatal("not let")
	}
	for _, c := range []struct {
		at   int
		name string
		more []impl.FlowLine
		ok   bool
	}{
		{1, "two", more, true}, {2, "two", more, true}, {4, "two", more, true}, {len(once) - 1, "two", more, true},
		{1, "one", more, false}, {1, "fast", more, false}, {0, "two", more, false}, {len(once), "two", more, false}, {len(once) + 1, "two", more, false}, {-1, "two", more, false},
		{1, "", more, false}, {1, "Two", more, false}, {1, "twotwotwo", more, false}, {1, "two", linesOf(t, "return z"), false}, {1, "two", linesOf(t, "end"), false}, {1, "two", linesOf(t, "patch two\nend"), false},
	} {
		kept := impl.FlowPrint(once) + impl.FlowPrint(lines)
		twice, ok := impl.VerInsert(once, c.at, c.name, c.more)
		if ok != c.ok || ok != (len(twice) > 0) || impl.FlowPrint(once)+impl.FlowPrint(lines) != kept {
			t.Errorf("%d, %q, %v: %v, %v", c.at, c.name, c.more, ok, twice)
		}
		if ok {
			for _, text := range strings.Split("start 3|ask 1 0 pay 3;start 3|ask 1 0 pay 3|done 1 4|mark fast|ask 2 1 - 1;start 3|ask 1 0 pay 3|done 1 4|end 1 4;start 3|ask 1 0 pay 3|broke 1 4|end 2 4", ";") {
				doneAlike(t, lines, twice, hist(t, text))
			}
		}
	}
}

package tests

import (
	"fmt"
	"math/rand"
	"slices"
	"strings"
	"testing"

	"loop.example/dunlin/impl"
)

// nothingLost asks that what was done in the world stays, with its answer, and that what was written stays, but by beginning anew.
func nothingLost(t *testing.T, ahead, behind impl.ServWorld) {
	t.Helper()
	for _, x := range ahead.Effects {
		i := slices.IndexFunc(behind.Effects, func(y impl.ServEffect) bool { return y.Key == x.Key })
		if i < 0 || behind.Effects[i].Answer != x.Answer || behind.Effects[i].Tries < x.Tries {
			t.Fatalf("%+v was lost: %+v", x, behind.Effects)
		}
	}
	for _, x := range ahead.Runs {
		i := slices.IndexFunc(behind.Runs, func(y impl.ServRun) bool { return y.Name == x.Name })
		if i < 0 {
			t.Fatalf("%s is gone", x.Name)
		}
		y := behind.Runs[i]
		stays := y.Chain == x.Chain && len(y.Hist) >= len(x.Hist) && sameHist(y.Hist[:len(x.Hist)], x.Hist)
		if !stays && y.Chain <= x.Chain {
			t.Fatalf("%s: %s was lost: %s", x.Name, rowsBy(x.Hist), rowsBy(y.Hist))
		}
	}
}

// onceAndFenced asks that what has a code changes nothing but hands, that a token that was there changes nothing, and that what is written was taken by the shard's term, where the history ended.
func onceAndFenced(t *testing.T, ahead impl.ServWorld, e impl.ServEvent, behind impl.ServWorld, code int) {
	t.Helper()
	token := e.Kind == impl.ServSignals && slices.Contains(ahead.Tokens, e.Id)
	if code != 0 && code != 8 || token {
		if !sameServ(ahead, behind) {
			t.Fatalf("%+v, code %d: %s became %s", e, code, servShape(ahead), servShape(behind))
		}
		return
	}
	if e.Kind != impl.ServWrites {
		return
	}
	task := ahead.Workers[e.Who].Tasks[0]
	x, y := ahead.Runs[task.Run], behind.Runs[task.Run]
	rest := copyServ(ahead)
	rest.Workers[e.Who].Tasks = rest.Workers[e.Who].Tasks[1:]
	if code == 8 {
		if !sameServ(rest, behind) {
			t.Fatalf("%+v, code 8: %s became %s", e, servShape(ahead), servShape(behind))
		}
		return
	}
	rest.Runs[task.Run] = y
	if !sameServ(rest, behind) {
		t.Fatalf("%+v changed more than its run: %s became %s", e, servShape(ahead), servShape(behind))
	}
	written := y.Chain == x.Chain && sameHist(y.Hist, slices.Concat(x.Hist, task.Put))
	anew := y.Chain == x.Chain+1 && len(y.Hist) == 0
	if task.Term != ahead.Shards[shardBy(ahead, task.Run)].Term || task.Len != len(x.Hist) || task.Chain != x.Chain || !written && !anew {
		t.Fatalf("%+v was written: %+v became %+v", task, x, y)
	}
}

// toldOf asks that there is a board, and a state of each run that has a history.
func toldOf(t *testing.T, w impl.ServWorld) {
	t.Helper()
	if board := impl.ServBoard(w); board != boardBy(w) || strings.Count(board, "\n") != 1+len(w.Shards)+len(w.Runs)+len(w.Effects) {
		t.Fatalf("board %q, asked for %q", board, boardBy(w))
	}
	for i, x := range w.Runs {
		s, ok := impl.ServState(w, i)
		if ok != (len(x.Hist) > 0) || shape(s) != shape(stateBy(w, i)) || impl.ServShardOf(w, i) != shardBy(w, i) {
			t.Fatalf("%s: %v, %s, shard %d", x.Name, ok, shape(s), impl.ServShardOf(w, i))
		}
	}
}

// From an opening on, behind all that may happen, a service is safe, loses nothing, and is as a second reckoning says.
func TestServicesByASecondReckoning(t *testing.T) {
	t.Parallel()
	r := rand.New(rand.NewSource(51))
	seen := map[string]int{}
	for range 110 {
		w := anyService(t, r)
		for moves := range 60 {
			for _, e := range anyEvents(r, w) {
				x, code := doesAlike(t, w, e)
				if !impl.ServSafe(x) || worldOkBy(x) != "" || !safeBy(x) {
					t.Fatalf("%+v of\n%s\nnot safe:\n%s", e, servShape(w), servShape(x))
				}
				nothingLost(t, w, x)
				onceAndFenced(t, w, e, x, code)
				seen[seenOf(e, code)]++
				if e.Kind == impl.ServWrites && code == 0 {
					run := w.Workers[e.Who].Tasks[0].Run
					s := stateBy(x, run)
					seen[fmt.Sprint("stands ", s.Stands, s.Ending)]++
					seen["anew"] += x.Runs[run].Chain - w.Runs[run].Chain
					seen["nothing put"] += map[int]int{0: 1}[len(w.Workers[e.Who].Tasks[0].Put)]
				}
				w = x
			}
			if moves%4 == 0 {
				toldOf(t, w)
			}
		}
	}
	for kind, codes := range [][]int{{}, {0}, {0, 2, 3}, {0, 2, 5, 6}, {0, 5, 6}, {0, 5, 7}, {0, 5, 6, 7}, {0, 5, 6, 7, 8}, {0, 5, 7}, {0, 5, 7}, {0}, {0, 5}, {0, 2, 5, 9}} {
		for _, code := range codes {
			if what := fmt.Sprintf("kind %d code %d", kind, code); seen[what] == 0 {
				t.Errorf("%s never came", what)
			}
		}
	}
	for _, what := range []string{"stands 0 false", "stands 0 true", "stands 1 false", "stands 2 false", "stands 4 false", "anew", "nothing put"} {
		if seen[what] < 2 {
			t.Errorf("%s came %d times: %v", what, seen[what], seen)
		}
	}
}

// driven is a service behind things that happened to it, each of which is let or not.
func driven(t *testing.T, r *rand.Rand, events int) impl.ServWorld {
	t.Helper()
	w := anyService(t, r)
	for range events {
		for _, e := range anyEvents(r, w) {
			w, _ = impl.ServDo(w, e)
		}
	}
	return w
}

// Calm rounds are one thing behind the other, whatever workers have in their hands, and some and then some more are both together.
func TestCalmOfAnyServices(t *testing.T) {
	t.Parallel()
	r := rand.New(rand.NewSource(52))
	inHands, closed := 0, 0
	for range 60 {
		w := driven(t, r, 10+r.Intn(50))
		for i := range w.Runs {
			w, _ = impl.ServDo(w, evSignal(i, 100+i, "go", i))
			w, _ = impl.ServDo(w, evTake(r.Intn(len(w.Workers)), i))
		}
		for _, k := range w.Workers {
			inHands += len(k.Tasks)
		}
		x := calms(t, w, 1+r.Intn(6))
		if !impl.ServSafe(x) {
			t.Fatalf("not safe: %s", servShape(x))
		}
		nothingLost(t, w, x)
		toldOf(t, x)
		a, b := r.Intn(12), r.Intn(12)
		if r.Intn(6) == 0 {
			a, b = r.Intn(151), 149
		}
		both := impl.ServCalm(w, a+b)
		if two := impl.ServCalm(impl.ServCalm(w, a), b); servShape(two) != servShape(both) {
			t.Fatalf("%d and %d rounds of %s: %s, and %s", a, b, servShape(w), servShape(two), servShape(both))
		}
		if !impl.ServSafe(both) {
			t.Fatalf("not safe: %s", servShape(both))
		}
		nothingLost(t, w, both)
		for _, y := range both.Runs {
			closed += map[bool]int{true: 1}[y.Closed]
		}
	}
	if inHands < 50 || closed < 50 {
		t.Errorf("%d in hands, %d closed", inHands, closed)
	}
}

// Of any world it is said rightly whether it is ok; what happens to one that is leaves it ok, and is as a second reckoning says.
func TestAnyWorlds(t *testing.T) {
	t.Parallel()
	r := rand.New(rand.NewSource(53))
	seen := map[string]int{}
	for range 60 {
		w := driven(t, r, 10+r.Intn(60))
		for range 25 {
			x := spoilServ(r, w)
			wrong := worldOkBy(x)
			seen["wrong: "+wrong]++
			if impl.ServOk(x) != (wrong == "") {
				t.Fatalf("%q by hand: %s", wrong, servShape(x))
			}
			if wrong != "" {
				notOk(t, wrong, x)
				continue
			}
			if impl.ServSafe(x) != safeBy(x) {
				t.Fatalf("safe is not %v: %s", safeBy(x), servShape(x))
			}
			seen[fmt.Sprint("safe ", safeBy(x))]++
			toldOf(t, x)
			for range 6 {
				e := anyEvent(r, x)
				y, code := doesAlike(t, x, e)
				seen[seenOf(e, code)]++
				onceAndFenced(t, x, e, y, code)
				x = y
			}
			if r.Intn(6) == 0 {
				calms(t, x, 1+r.Intn(2))
			}
		}
	}
	for _, what := range []string{"now", "flows", "how many shards and workers", "shard", "runs", "run", "args", "what is in an inbox", "try", "due", "lists of a run", "not begun", "history", "worker", "term", "task", "effect", "effects and tokens", ""} {
		if seen["wrong: "+what] == 0 {
			t.Errorf("wrong: %q never came: %v", what, seen)
		}
	}
	if seen["safe true"] < 50 || seen["safe false"] < 20 || seen["kind 7 code 0"] < 20 || seen["kind 7 code 8"] < 5 {
		t.Errorf("%v", seen)
	}
}

// plain leaves out of a workflow what a promise leaves out: times for signals, and beginning anew.
func plain(lines []impl.FlowLine) []impl.FlowLine {
	lines = deepCopy(lines)
	for i, l := range lines {
		switch l.Kind {
		case impl.FlowGet:
			lines[i].Args = nil
		case impl.FlowNext:
			lines[i] = impl.FlowLine{Kind: impl.FlowReturn, Args: append(l.Args, "1")[:1]}
		}
	}
	return lines
}

// isFull says whether something about a service, or one of its runs, is full, or far away.
func isFull(w impl.ServWorld, run int, signals []impl.RunVar) bool {
	x := w.Runs[run]
	far := slices.ContainsFunc(x.Dues, func(d impl.ServDue) bool { return d.Tick > w.Now })
	return far || len(x.Hist) > 300 || len(w.Effects) == impl.ServMaxEffects || len(signals) > impl.RunMaxBox
}

// A run ends as if no worker had ever fallen.
func TestAsIfNobodyEverFell(t *testing.T) {
	t.Parallel()
	r := rand.New(rand.NewSource(54))
	seen := map[string]int{}
	for range 150 {
		w := anyService(t, r)
		for i := range w.Flows {
			w.Flows[i] = plain(w.Flows[i])
		}
		answered := map[string][]impl.RunVar{}
		var events []impl.ServEvent
		for range 20 + r.Intn(150) {
			if len(events) == 0 {
				events = anyEvents(r, w)
			}
			e := events[0]
			events = events[1:]
			if e.Kind == impl.ServCancels || e.Kind == impl.ServDeploys {
				continue
			}
			x, code := impl.ServDo(w, e)
			if e.Kind == impl.ServSignals && code == 0 && len(x.Tokens) > len(w.Tokens) {
				name := w.Runs[e.Run].Name
				answered[name] = append(answered[name], impl.RunVar{Name: e.Name, Num: e.Nums[0]})
			}
			if code == 8 {
				seen["fenced"]++
			}
			w = x
		}
		for who := range w.Workers {
			w, _ = impl.ServDo(w, evRise(who))
		}
		for range 3 {
			w = impl.ServCalm(w, 300)
		}
		for i, x := range w.Runs {
			signals := answered[x.Name]
			played, _ := impl.RunPlay(w.Flows[x.Flow], x.Args, signals, nil, impl.RunMaxPlay)
			s, ok := impl.ServState(w, i)
			if isFull(w, i, signals) || len(played.Asks) > 0 || played.Result == impl.RunBusy || s.Result == impl.RunBusy {
				seen["left out"]++
				continue
			}
			seen[fmt.Sprint("stands ", s.Stands)]++
			if !ok || s.Stands != played.Stands || s.Result != played.Result {
				t.Fatalf("%s%v, signals %v: %s, asked for %s\n%s", impl.FlowPrint(w.Flows[x.Flow]), x.Args, signals, shape(s), shape(played), rowsBy(x.Hist))
			}
			if s.Stands == impl.RunLive && fmt.Sprint(s.Vars) != fmt.Sprint(played.Vars) {
				t.Fatalf("%s%v, signals %v: %s, asked for %s", impl.FlowPrint(w.Flows[x.Flow]), x.Args, signals, shape(s), shape(played))
			}
		}
	}
	cameOften(t, seen, map[string]int{"fenced": 20, "stands 0": 30, "stands 1": 50, "stands 2": 5})
}

// Nothing that is handed in is changed, also behind its end; an answer shares no memory with it, nor two lists of one answer.
func TestServicesAreNewMemory(t *testing.T) {
	t.Parallel()
	r := rand.New(rand.NewSource(55))
	for range 25 {
		w := driven(t, r, 20+r.Intn(30))
		for range 12 {
			w = roomyServ(w)
			e := anyEvent(r, w)
			e.Nums, e.Lines = roomy(e.Nums, 77), roomyLines(e.Lines)
			given := func() string {
				text := wholeServ(w) + fmt.Sprint(e.Nums[:cap(e.Nums)], e.Lines[:cap(e.Lines)])
				for _, l := range e.Lines {
					text += fmt.Sprint(l.Args[:cap(l.Args)])
				}
				return text
			}
			before := given()
			spans := slices.Concat(spansOfServ("ahead", w), spanOf("Nums", e.Nums), spansOfLines("Lines", e.Lines))
			x, code := impl.ServDo(w, e)
			lieApart(t, spans, spansOfServ("behind", x))
			lieApart(t, spans, spansOfServ("calm", impl.ServCalm(w, r.Intn(3))))
			impl.ServBoard(w)
			impl.ServSafe(w)
			if s, ok := impl.ServState(w, 0); ok {
				lieApart(t, spans, spansOf("state", s))
			}
			impl.ServShardOf(w, 0)
			if given() != before || t.Failed() {
				t.Fatalf("%+v, code %d: %s became %s", e, code, before, given())
			}
			w = x
		}
	}
}

// What is answered hangs on what is handed in alone, from however many sides, and however often, it is asked.
func TestServicesHangOnNothingElse(t *testing.T) {
	t.Parallel()
	r := rand.New(rand.NewSource(56))
	for range 20 {
		w := driven(t, r, 20+r.Intn(30))
		e := anyEvent(r, w)
		ask := func() string {
			x, code := impl.ServDo(w, e)
			s, ok := impl.ServState(w, 0)
			return fmt.Sprint(servShape(x), code, servShape(impl.ServCalm(w, 4)), impl.ServBoard(w), impl.ServSafe(w), shape(s), ok)
		}
		askedAtOnce(t, servShape(w), ask)
	}
}

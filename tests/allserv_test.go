package tests

import (
	"fmt"
	"math"
	"math/rand"
	"slices"
	"testing"

	"loop.example/dunlin/impl"
)

// servStep is something that happened to a service.
type servStep struct {
	ahead  impl.ServWorld
	e      impl.ServEvent
	behind impl.ServWorld
	code   int
}

func (s servStep) fails(t *testing.T, what string) {
	t.Helper()
	t.Fatalf("%s: %+v, code %d\n%s\n%s", what, s.e, s.code, servShape(s.ahead), servShape(s.behind))
}

// fallsAlone asks that a worker that falls loses what it has in its hands, and its terms, and that nothing else changes.
func (s servStep) fallsAlone(t *testing.T) {
	t.Helper()
	if s.e.Kind != impl.ServFalls || s.code != 0 {
		return
	}
	want := copyServ(s.ahead)
	want.Workers[s.e.Who] = impl.ServWorker{Terms: make([]int, len(want.Shards))}
	if !sameServ(s.behind, want) {
		s.fails(t, "more fell than the worker")
	}
}

// growsByOne asks that terms, Now and Tokens grow by one, if at all, each by what lets it grow alone.
func (s servStep) growsByOne(t *testing.T) {
	t.Helper()
	ticks := map[bool]int{true: 1}[s.e.Kind == impl.ServTicks && s.code == 0]
	if s.behind.Now != s.ahead.Now+ticks {
		s.fails(t, "Now")
	}
	for i, shard := range s.behind.Shards {
		by := shard.Term - s.ahead.Shards[i].Term
		if by != 0 && (by != 1 || s.e.Kind != impl.ServLeases || s.e.Id != i || s.code != 0) {
			s.fails(t, "a term")
		}
	}
	if slices.Equal(s.behind.Tokens, s.ahead.Tokens) {
		return
	}
	more := sorted(append(slices.Clone(s.ahead.Tokens), s.e.Id))
	if s.e.Kind != impl.ServSignals || s.code != 0 || slices.Contains(s.ahead.Tokens, s.e.Id) || !slices.Equal(s.behind.Tokens, more) {
		s.fails(t, "Tokens")
	}
}

// named is the name of the run that an event is of; "", if it is of none.
func (s servStep) named() string {
	run := -1
	switch s.e.Kind {
	case impl.ServSignals, impl.ServCancels, impl.ServTakes, impl.ServTries, impl.ServFires:
		run = s.e.Run
	case impl.ServWrites:
		if between(0, len(s.ahead.Workers)-1, s.e.Who) && len(s.ahead.Workers[s.e.Who].Tasks) > 0 {
			run = s.ahead.Workers[s.e.Who].Tasks[0].Run
		}
	}
	if !between(0, len(s.ahead.Runs)-1, run) {
		return ""
	}
	return s.ahead.Runs[run].Name
}

// othersStay asks that what happens to one run leaves all others alone; by what is of none all stay.
func (s servStep) othersStay(t *testing.T) {
	t.Helper()
	name := s.named()
	begun := map[bool]int{true: 1}[s.e.Kind == impl.ServBegins && s.code == 0]
	if len(s.behind.Runs) != len(s.ahead.Runs)+begun {
		s.fails(t, "how many runs there are")
	}
	for _, x := range s.ahead.Runs {
		i := slices.IndexFunc(s.behind.Runs, func(y impl.ServRun) bool { return y.Name == x.Name })
		if i < 0 || x.Name != name && !sameRun(x, s.behind.Runs[i]) {
			s.fails(t, "another run")
		}
	}
}

// isLetIn asks that a workflow that was changed does all histories of its runs; if it was turned down by 9, it does not.
func (s servStep) isLetIn(t *testing.T) {
	t.Helper()
	if s.e.Kind != impl.ServDeploys || s.code != 0 && s.code != 9 {
		return
	}
	broken := 0
	for _, x := range s.ahead.Runs {
		if x.Flow != s.e.Id || len(x.Hist) == 0 {
			continue
		}
		if _, f := impl.HistReplay(s.e.Lines, x.Hist); f.Code != 0 {
			broken++
		}
	}
	want := copyServ(s.ahead)
	if s.code == 0 {
		want.Flows[s.e.Id] = s.e.Lines
	}
	if (broken > 0) != (s.code == 9) || !sameServ(s.behind, want) {
		s.fails(t, fmt.Sprint(broken, " runs break"))
	}
}

// notes what random services must have met.
func (s servStep) notes(seen map[string]int) {
	if s.code != 0 {
		return
	}
	switch s.e.Kind {
	case impl.ServFalls:
		if len(s.ahead.Workers[s.e.Who].Tasks) > 1 {
			seen["fell with its hands full"]++
		}
	case impl.ServLeases:
		seen[fmt.Sprint("a term grew by ", s.behind.Shards[s.e.Id].Term-s.ahead.Shards[s.e.Id].Term)]++
	case impl.ServSignals:
		seen[fmt.Sprint("tokens grew by ", len(s.behind.Tokens)-len(s.ahead.Tokens))]++
	case impl.ServDeploys:
		underWay := func(x impl.ServRun) bool { return x.Flow == s.e.Id && len(x.Hist) > 0 }
		if !same(s.e.Lines, s.ahead.Flows[s.e.Id]) && slices.ContainsFunc(s.ahead.Runs, underWay) {
			seen["changed with runs under way"]++
		}
	}
	if s.named() != "" && len(s.ahead.Runs) > 2 {
		seen[fmt.Sprint("others stay by ", s.e.Kind)]++
	}
}

// fallsFull are a worker's takes of each run, its fall, and that it rises.
func fallsFull(w impl.ServWorld, who int) []impl.ServEvent {
	var list []impl.ServEvent
	for run := range w.Runs {
		list = append(list, evLease(who, shardBy(w, run)), evTake(who, run))
	}
	return append(list, evFall(who), evRise(who))
}

// Promises 60, 61, 63 and 65, behind each thing that happens: what falls with a worker, what grows, what is left alone, and what is let in.
func TestServicesStepByStep(t *testing.T) {
	t.Parallel()
	r := rand.New(rand.NewSource(121))
	seen := map[string]int{}
	for range 60 {
		w := anyService(t, r)
		for range 70 {
			list := anyEvents(r, w)
			switch r.Intn(14) {
			case 0:
				list = []impl.ServEvent{anyDeploy(r, w)}
			case 1:
				list = fallsFull(w, r.Intn(len(w.Workers)))
			case 2:
				if len(w.Tokens) > 0 {
					list = []impl.ServEvent{evSignal(place(r, len(w.Runs)), w.Tokens[r.Intn(len(w.Tokens))], "go", 1)}
				}
			}
			for _, e := range list {
				x, code := servDeeds.goes(t, w, e)
				s := servStep{w, e, x, code}
				s.fallsAlone(t)
				s.growsByOne(t)
				s.othersStay(t)
				s.isLetIn(t)
				s.notes(seen)
				seen[seenOf(e, code)]++
				w = x
			}
		}
		// In a calm round a shard changes hands once at the most.
		x := impl.ServCalm(w, 1)
		for i, shard := range x.Shards {
			if by := shard.Term - w.Shards[i].Term; !between(0, 1, by) || x.Now != w.Now+1 || !slices.Equal(x.Tokens, w.Tokens) {
				t.Fatalf("%s\n%s", servShape(w), servShape(x))
			}
		}
	}
	cameOften(t, seen, map[string]int{
		"fell with its hands full": 20, "a term grew by 0": 50, "a term grew by 1": 50, "tokens grew by 0": 20, "tokens grew by 1": 100, "changed with runs under way": 20, "kind 12 code 9": 8, "kind 12 code 2": 5,
		"others stay by 3": 50, "others stay by 4": 20, "others stay by 6": 50, "others stay by 7": 50, "others stay by 8": 50, "others stay by 9": 5, "kind 10 code 7": 3, "kind 1 code 0": 100,
	})
}

// A term, a tick and the tokens at their ends.
func TestServicesGrowToTheirEnds(t *testing.T) {
	w := serves(t, opened(t, 2, 2, orderFlow), "begin x 0 2|begin y 0 3|lease 0 0|lease 1 1|take 0 0|signal 0 7 go 1")
	w = changedServ(t, w, func(w *impl.ServWorld) {
		w.Now = impl.ServMaxTick - 6
		for i := range w.Shards {
			w.Shards[i].Term = impl.ServMaxTerm - 1 + i
			w.Workers[w.Shards[i].Owner].Terms[i] = impl.ServMaxTerm - 1 + i
		}
		w.Tokens = slices.Repeat(w.Tokens, 58)
		for i := range w.Tokens {
			w.Tokens[i] = 7 * (i - 20)
		}
		w.Tokens[0], w.Tokens[57] = math.MinInt, math.MaxInt
	})
	// The term 9998 may grow once, 9999 no more; who holds a shard by it holds it all the same.
	w = serves(t, w, "lease 1 0|lease 0 1=4|lease 0 0=7|lease 1 1|tick*5|lease 0 0=4|lease 0 1=4|lease 1 0|lease 1 1|lease 0 1=7")
	if w.Shards[0] != (impl.ServShard{Owner: 1, Term: 9999, Until: 100003}) || w.Shards[1].Term != 9999 {
		t.Errorf("%+v", w.Shards)
	}
	w = serves(t, w, "tick|tick=4|signal 0 6 go 1|signal 0 8 go 1|signal 0 9 go 1=4|signal 0 8 go 2|signal 1 7 go 2")
	if w.Now != impl.ServMaxTick || len(w.Tokens) != impl.ServMaxTokens {
		t.Errorf("now %d, %d tokens", w.Now, len(w.Tokens))
	}
	for _, token := range []int{math.MinInt, math.MaxInt} {
		if x := does(t, w, evSignal(0, token, "go", 1), 0); !sameServ(x, w) {
			t.Errorf("%d came again: %s", token, servShape(x))
		}
		does(t, w, evSignal(0, token-token/99, "go", 1), 4)
	}
	calms(t, w, 2)
}

// A worker falls with its hands full, and again, and another one with nothing.
func TestServFallsAlone(t *testing.T) {
	w := serves(t, opened(t, 1, 3, orderFlow), "begin x 0 2|begin y 0 3|lease 0 0|take 0 0|take 0 1|take 0 0|write 0|try 0 1|take 0 0|signal 1 7 go 1")
	for _, who := range []int{0, 1, 2} {
		e := evFall(who)
		e.Run, e.Id, e.Name, e.Nums, e.Lost, e.Lines = 1, 1, "x", []int{1}, true, w.Flows[0]
		x := does(t, w, e, 0)
		servStep{w, e, x, 0}.fallsAlone(t)
		does(t, x, e, 7)
		// Who rises has nothing of what it had.
		y := does(t, x, evRise(who), 0)
		x.Workers[who].Up = true
		if !sameServ(x, y) || len(y.Workers[who].Tasks) > 0 || y.Workers[who].Terms[0] != 0 {
			t.Errorf("%s", servShape(y))
		}
	}
	does(t, w, evFall(3), 5)
	does(t, w, evFall(-1), 5)
}

// Two runs of one shard, and one worker, of which one goes on from its beginning to its end, and the other one stands.
func TestOneRunGoesOn(t *testing.T) {
	w := serves(t, opened(t, 1, 1, orderFlow, againFlow), "begin x 0 2|begin y 0 2|begin xx 1 3|lease 0 0|take 0 0|write 0|take 0 1|write 0|take 0 2|write 0|try 0 1|signal 0 5 go 1|signal 2 6 go 1")
	for name, script := range map[string]string{
		"x":  "try 0 1=7|signal 0 1 go 4|take 0 0|take 0 0|write 0|write 0=8|take 0 0|write 0|tick*3|lost 0 2|tick*9|try 0 2|take 0 0|write 0|take 0 0|write 0|signal 0 2 go 1=6",
		"xx": "signal 1 1 go 2|take 0 1|write 0|take 0 1|write 0|signal 1 2 go 9|cancel 1|take 0 1|write 0|take 0 1=6",
		"y":  "signal 2 1 go 4|try 2 1|cancel 2|take 0 2|write 0|take 0 2|write 0|take 0 2|write 0|take 0 2|write 0|try 2 3",
	} {
		x := w
		for _, c := range servDeeds.events(t, script) {
			y := does(t, x, c.event, c.code)
			s := servStep{x, c.event, y, c.code}
			s.othersStay(t)
			if of := s.named(); of != name && of != "" {
				t.Fatalf("%s: %+v is of %q", name, c.event, of)
			}
			x = y
		}
		for i, run := range w.Runs {
			if stays := sameRun(run, x.Runs[i]); stays == (run.Name == name) {
				t.Errorf("%s went on: %s became %s", name, rowsBy(run.Hist), rowsBy(x.Runs[i].Hist))
			}
		}
	}
}

// Promise 54 of services: what was tried twice was answered twice, and counts once, whichever worker takes it.
func TestAnswersCountOnceInServices(t *testing.T) {
	ahead := serves(t, opened(t, 1, 2, orderFlow), "begin x 0 2|lease 0 0|take 0 0|write 0|signal 0 5 go 3|try 0 1|tick*3")
	once := serves(t, ahead, "take 0 0|write 0|take 0 0|write 0")
	for _, script := range []string{
		"try 0 1|take 0 0|write 0|take 0 0|write 0|take 0 0|write 0",
		"try 0 1|tick*9|try 0 1|take 0 0|write 0|take 0 0|write 0|take 0 0|write 0|take 0 0=6",
		"try 0 1|take 0 0|fall 0|tick*2|lease 1 0|take 1 0|take 1 0|write 1|write 1=8|take 1 0|write 1|take 1 0|write 1",
		"take 0 0|try 0 1|write 0|take 0 0|write 0|take 0 0|write 0",
	} {
		w := serves(t, ahead, script)
		if !sameHist(w.Runs[0].Hist, once.Runs[0].Hist) || len(w.Runs[0].Inbox) > 0 || len(w.Effects) != 1 || w.Effects[0].Tries < 2 {
			t.Errorf("%s: %s, asked for %s; %v", script, rowsBy(w.Runs[0].Hist), rowsBy(once.Runs[0].Hist), w.Effects)
		}
	}
}

// overBy says whether each run is closed.
func overBy(w impl.ServWorld) bool {
	return !slices.ContainsFunc(w.Runs, func(x impl.ServRun) bool { return !x.Closed })
}

// staysOver asks that calm rounds change neither runs nor effects.
func staysOver(t *testing.T, w impl.ServWorld, rounds int) {
	t.Helper()
	x := impl.ServCalm(w, rounds)
	if !slices.EqualFunc(x.Runs, w.Runs, sameRun) || !slices.Equal(x.Effects, w.Effects) || !slices.Equal(x.Tokens, w.Tokens) {
		t.Fatalf("%d rounds of\n%s\nare\n%s", rounds, servShape(w), servShape(x))
	}
	if x.Now != min(impl.ServMaxTick, w.Now+rounds) {
		t.Fatalf("%d rounds from %d on: now %d", rounds, w.Now, x.Now)
	}
}

// stale puts tasks for runs that are closed into a worker's hands: as they were ahead of their ends, and as if there were more to write.
func stale(t *testing.T, r *rand.Rand, w impl.ServWorld) impl.ServWorld {
	t.Helper()
	return changedServ(t, w, func(w *impl.ServWorld) {
		k := &w.Workers[r.Intn(len(w.Workers))]
		for run, x := range w.Runs {
			task := impl.ServTask{Run: run, Chain: x.Chain, Term: w.Shards[shardBy(*w, run)].Term, Len: len(x.Hist) - r.Intn(2), Take: r.Intn(2), Put: copyHist(x.Hist[:r.Intn(2)])}
			if k.Up && len(k.Tasks) < impl.ServMaxRuns {
				k.Tasks = append(k.Tasks, task)
			}
		}
	})
}

// Promise 62: a service in which all is over does nothing more, whoever is up, and whatever they have in their hands.
func TestServicesInWhichAllIsOver(t *testing.T) {
	t.Parallel()
	r := rand.New(rand.NewSource(122))
	seen := map[string]int{}
	for range 70 {
		w := driven(t, r, 10+r.Intn(50))
		for who := range w.Workers {
			w, _ = impl.ServDo(w, evRise(who))
		}
		w = impl.ServCalm(w, 8)
		for run := range w.Runs {
			w, _ = impl.ServDo(w, evCancel(run))
			if r.Intn(2) == 0 {
				// What comes behind it is never taken out of the inbox, if it is not by then.
				w, _ = impl.ServDo(w, evSignal(run, 1000+run, "go", 1))
			}
		}
		w = impl.ServCalm(w, 120)
		if !overBy(w) {
			seen["left out"]++
			continue
		}
		seen["over"]++
		for _, x := range w.Runs {
			seen["inbox left"] += map[bool]int{true: 1}[len(x.Inbox) > 0]
		}
		seen["effects"] += len(w.Effects)
		for _, rounds := range []int{0, 1, 2, 9, 300} {
			staysOver(t, w, rounds)
		}
		x := stale(t, r, w)
		staysOver(t, x, 1+r.Intn(9))
		x, _ = impl.ServDo(x, evFall(0))
		staysOver(t, x, 7)
		x.Now = impl.ServMaxTick - 1
		staysOver(t, x, 3)
	}
	cameOften(t, seen, map[string]int{"over": 40, "effects": 100, "inbox left": 5})
	// Without runs all is over, too; what is not ok is nothing.
	staysOver(t, opened(t, 2, 2, orderFlow), 20)
	if x := impl.ServCalm(impl.ServWorld{Now: 3}, 2); servShape(x) != servShape(impl.ServWorld{}) {
		t.Errorf("%s", servShape(x))
	}
}

// goesAnyhow lets things happen to a service of plain workflows; it tells which runs were cancelled, while workers fall and what was done is lost.
func goesAnyhow(t *testing.T, r *rand.Rand, seen map[string]int) (impl.ServWorld, map[string]bool) {
	t.Helper()
	w, cancelled := anyService(t, r), map[string]bool{}
	for i := range w.Flows {
		w.Flows[i] = plain(w.Flows[i])
	}
	for range 20 + r.Intn(60) {
		list := anyEvents(r, w)
		switch run := place(r, len(w.Runs)); r.Intn(12) {
		case 0:
			if r.Intn(3) == 0 {
				list = []impl.ServEvent{evCancel(run)}
			}
		case 1:
			list = fallsFull(w, r.Intn(len(w.Workers)))
			list = list[:len(list)-r.Intn(2)]
		case 2:
			list = []impl.ServEvent{anyDeploy(r, w)}
		}
		for _, e := range list {
			if e.Kind == impl.ServDeploys && impl.FlowCheck(e.Lines).Code == 0 {
				e.Lines = plain(e.Lines)
			}
			x, code := impl.ServDo(w, e)
			if e.Kind == impl.ServCancels && code == 0 {
				cancelled[w.Runs[e.Run].Name] = true
				if len(w.Runs[e.Run].Hist) == 0 {
					seen["cancelled ahead of its beginning"]++
				}
			}
			if e.Kind == impl.ServFalls && code == 0 && len(w.Workers[e.Who].Tasks) > 0 {
				seen["fell with something in its hands"]++
			}
			w = x
		}
	}
	return w, cancelled
}

// Promise 64: a run that is cancelled ends, whatever falls.
func TestCancelledRunsEndWhateverFalls(t *testing.T) {
	t.Parallel()
	r := rand.New(rand.NewSource(123))
	seen := map[string]int{}
	for range 110 {
		w, cancelled := goesAnyhow(t, r, seen)
		for who := range w.Workers {
			w, _ = impl.ServDo(w, evRise(who))
		}
		w = impl.ServCalm(w, 150)
		for i, x := range w.Runs {
			if !cancelled[x.Name] {
				continue
			}
			s, ok := impl.ServState(w, i)
			if !x.Closed && (len(x.Hist) > 300 || len(w.Effects) == impl.ServMaxEffects) {
				seen["full"]++
				continue
			}
			if !ok || !x.Closed || s.Stands == impl.RunLive || s.Stands == impl.RunStopped && s.Result != impl.RunCancel {
				t.Fatalf("%s%s was cancelled: %s\n%s", impl.FlowPrint(w.Flows[x.Flow]), x.Name, rowsBy(x.Hist), servShape(w))
			}
			seen[fmt.Sprint("stands ", s.Stands)]++
			if s.Stands == impl.RunStopped && slices.ContainsFunc(x.Hist, func(e impl.HistEntry) bool { return e.Kind == impl.EntAsk && e.Key[len(e.Key)-1] == '-' }) {
				seen["something was undone"]++
			}
		}
	}
	cameOften(t, seen, map[string]int{"cancelled ahead of its beginning": 20, "fell with something in its hands": 20, "stands 4": 80, "something was undone": 10})
}

// Wherever a worker falls on the way, and whatever is lost, what was done is undone once, the last first.
func TestCancelledRunsEndWhereverWorkersFall(t *testing.T) {
	ahead := serves(t, opened(t, 1, 2, "workflow w|do a x undo y|do b x undo z|get c go|return c"), "begin r 0|lease 0 0|take 0 0|write 0|try 0 1|take 0 0|write 0|try 0 2|take 0 0|write 0|cancel 0")
	way := servDeeds.events(t, "take 0 0|write 0|lost 0 3|tick*4|try 0 3|take 0 0|write 0|lost 0 4|tick*4|try 0 4|take 0 0|write 0")
	for fallsAt := range len(way) + 1 {
		for _, other := range []int{0, 1} {
			w := ahead
			for i, c := range way {
				if i == fallsAt {
					w = does(t, w, evFall(other), 0)
				}
				w, _ = impl.ServDo(w, c.event)
			}
			w, _ = impl.ServDo(w, evRise(other))
			w = impl.ServCalm(w, 12)
			s, _ := impl.ServState(w, 0)
			keys := ""
			for _, e := range w.Effects {
				keys += " " + e.Key
			}
			if !w.Runs[0].Closed || s.Stands != impl.RunStopped || s.Result != impl.RunCancel || keys != " r/0/0 r/0/0- r/0/1 r/0/1-" || !impl.ServSafe(w) {
				t.Fatalf("worker %d fell ahead of %d: %s%s", other, fallsAt, impl.ServBoard(w), rowsBy(w.Runs[0].Hist))
			}
		}
	}
	// With nobody up it stays as it is; and by an inbox that is full it is not cancelled at all.
	w := impl.ServCalm(serves(t, ahead, "fall 0|fall 1"), 20)
	if w.Runs[0].Closed || !sameRun(w.Runs[0], ahead.Runs[0]) {
		t.Errorf("%s", impl.ServBoard(w))
	}
	full := changedServ(t, ahead, func(w *impl.ServWorld) { w.Runs[0].Inbox = slices.Repeat(haps(signal("no", 1)), 30) })
	does(t, full, evCancel(0), 4)
}

// Promise 65: a change of a workflow is let in only if no run that is there breaks by it, of whichever place.
func TestServDeploysWithRunsUnderWay(t *testing.T) {
	w := serves(t, opened(t, 1, 1, "workflow w n|do a x n|do b y a|return b", orderFlow), "begin r 0 1|begin s 0 2|begin u 1 3|begin v 0 4|lease 0 0|take 0 0|write 0|take 0 1|write 0|take 0 2|write 0|try 1 1|take 0 1|write 0")
	for _, c := range []struct {
		what, text string
		code       int
	}{
		{"as it is", "workflow w n|do a x n|do b y a|return b", 0},
		{"another name of a number, and another end", "workflow w m|do c x m|do d y c|fail m", 0},
		{"within a patch", "workflow w n|patch p|sleep 3|end|do a x n|do b y a|return b", 0},
		{"what comes later, for one of both", "workflow w n|do a x n|do b z a|return b", 9},
		{"what comes first", "workflow w n|do a z n|do b y a|return b", 9},
		{"shorter", "workflow w n|do a x n|return a", 9},
		{"more names", "workflow w n m|do a x n|do b y a|return b", 2},
		{"less names", "workflow w|do a x 1|do b y a|return b", 2},
		{"a fault", "workflow w n|do a x n|do b y a", 2},
		{"nothing", "", 2},
	} {
		e := evDeploy(0, linesBy(t, c.text))
		x := does(t, w, e, c.code)
		servStep{w, e, x, c.code}.isLetIn(t)
		if !impl.ServSafe(x) {
			t.Errorf("%s: not safe", c.what)
		}
		// Of the other flow no run is of this one; who has not begun asks for nothing.
		only := changedServ(t, w, func(w *impl.ServWorld) { w.Runs, w.Workers[0].Tasks = w.Runs[2:], nil })
		does(t, only, e, map[int]int{2: 2}[c.code])
	}
	// A run that is over has a history, too.
	fails := evDeploy(0, linesBy(t, "workflow w n|do a x n|do b y a|fail b"))
	does(t, w, fails, 0)
	over := serves(t, w, "try 1 2|take 0 1|write 0")
	if !over.Runs[1].Closed {
		t.Fatalf("%s", rowsBy(over.Runs[1].Hist))
	}
	servStep{over, fails, does(t, over, fails, 9), 9}.isLetIn(t)
	does(t, w, evDeploy(2, w.Flows[0]), 5)
	does(t, w, evDeploy(-1, w.Flows[0]), 5)
}

// Of a service that is not ok no promise says anything: nothing happens to it, and nothing comes.
func TestServicesThatAreNotOkDoNothing(t *testing.T) {
	w := serves(t, opened(t, 1, 2, orderFlow), "begin x 0 2|lease 0 0|take 0 0|write 0")
	for what, spoil := range map[string]func(w *impl.ServWorld){
		"a term": func(w *impl.ServWorld) { w.Shards[0].Term = impl.ServMaxTerm + 1 }, "now": func(w *impl.ServWorld) { w.Now = impl.ServMaxTick + 1 },
		"tokens": func(w *impl.ServWorld) { w.Tokens = []int{2, 1} }, "closed": func(w *impl.ServWorld) { w.Runs[0].Closed = true },
		"hands of one that is down": func(w *impl.ServWorld) { w.Workers[1] = impl.ServWorker{Terms: []int{0}, Tasks: []impl.ServTask{{}}} },
		"no flows":                  func(w *impl.ServWorld) { w.Flows = nil },
	} {
		x := copyServ(w)
		spoil(&x)
		notOk(t, what, x)
		for kind := -1; kind <= 13; kind++ {
			e := impl.ServEvent{Kind: kind, Name: "z", Nums: []int{1}, Lines: w.Flows[0]}
			if y, code := impl.ServDo(x, e); code != 1 || servShape(y) != servShape(impl.ServWorld{}) {
				t.Errorf("%s: kind %d: code %d, %s", what, kind, code, servShape(y))
			}
		}
	}
}

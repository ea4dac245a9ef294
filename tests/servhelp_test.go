package tests

import (
	"fmt"
	"slices"
	"strconv"
	"strings"
	"testing"

	"loop.example/dunlin/impl"
)

func evTick() impl.ServEvent {
	return impl.ServEvent{Kind: impl.ServTicks}
}

func evBegin(name string, flow int, nums ...int) impl.ServEvent {
	return impl.ServEvent{Kind: impl.ServBegins, Name: name, Id: flow, Nums: nums}
}

func evSignal(run, token int, name string, nums ...int) impl.ServEvent {
	return impl.ServEvent{Kind: impl.ServSignals, Run: run, Id: token, Name: name, Nums: nums}
}

func evCancel(run int) impl.ServEvent {
	return impl.ServEvent{Kind: impl.ServCancels, Run: run}
}

func evLease(who, shard int) impl.ServEvent {
	return impl.ServEvent{Kind: impl.ServLeases, Who: who, Id: shard}
}

func evTake(who, run int) impl.ServEvent {
	return impl.ServEvent{Kind: impl.ServTakes, Who: who, Run: run}
}

func evWrite(who int) impl.ServEvent {
	return impl.ServEvent{Kind: impl.ServWrites, Who: who}
}

func evTry(run, id int) impl.ServEvent {
	return impl.ServEvent{Kind: impl.ServTries, Run: run, Id: id}
}

func evLost(run, id int) impl.ServEvent {
	return impl.ServEvent{Kind: impl.ServTries, Run: run, Id: id, Lost: true}
}

func evFire(run, id int) impl.ServEvent {
	return impl.ServEvent{Kind: impl.ServFires, Run: run, Id: id}
}

func evFall(who int) impl.ServEvent {
	return impl.ServEvent{Kind: impl.ServFalls, Who: who}
}

func evRise(who int) impl.ServEvent {
	return impl.ServEvent{Kind: impl.ServRises, Who: who}
}

func evDeploy(flow int, lines []impl.FlowLine) impl.ServEvent {
	return impl.ServEvent{Kind: impl.ServDeploys, Id: flow, Lines: lines}
}

// evBy is an event by its words: `begin NAME FLOW NUM ..`, `signal RUN TOKEN NAME NUM ..`, `lease WHO SHARD`, `take WHO RUN`, `try RUN ID` ..
func evBy(t *testing.T, text string) impl.ServEvent {
	t.Helper()
	words := strings.Fields(text)
	var nums []int
	name := ""
	for _, word := range words[1:] {
		if n, err := strconv.Atoi(word); err == nil {
			nums = append(nums, n)
		} else {
			name = strings.Trim(word, `"`)
		}
	}
	rest := append(slices.Clone(nums), 0, 0)
	switch words[0] {
	case "tick":
		return evTick()
	case "begin":
		return evBegin(name, rest[0], nums[1:]...)
	case "signal":
		return evSignal(rest[0], rest[1], name, nums[2:]...)
	case "cancel":
		return evCancel(rest[0])
	case "lease":
		return evLease(rest[0], rest[1])
	case "take":
		return evTake(rest[0], rest[1])
	case "write":
		return evWrite(rest[0])
	case "try":
		return evTry(rest[0], rest[1])
	case "lost":
		return evLost(rest[0], rest[1])
	case "fire":
		return evFire(rest[0], rest[1])
	case "fall":
		return evFall(rest[0])
	case "rise":
		return evRise(rest[0])
	}
	t.Fatalf("no event: %q", text)
	return impl.ServEvent{}
}

// opened is a service of flows whose lines are parted by strokes.
func opened(t *testing.T, shards, workers int, flows ...string) impl.ServWorld {
	t.Helper()
	var list [][]impl.FlowLine
	for _, text := range flows {
		list = append(list, flow(t, text))
	}
	w, ok := impl.ServOpen(list, shards, workers)
	if !ok {
		t.Fatalf("not opened: %v", flows)
	}
	return w
}

// does, doesAlike, serves and calms are of services.
var does, doesAlike, serves, calms = servDeeds.does, servDeeds.doesAlike, servDeeds.doesAll, servDeeds.calms

var servDeeds = deeds[impl.ServWorld, impl.ServEvent]{
	do: impl.ServDo, by: doBy, calm: impl.ServCalm, calmBy: calmBy, most: 300,
	event: evBy, ok: impl.ServOk, okBy: worldOkBy, same: sameServ, copy: copyServ, shape: servShape,
}

// servBoards asks for a board whose lines are parted by strokes.
func servBoards(t *testing.T, w impl.ServWorld, want string) {
	t.Helper()
	got := strings.ReplaceAll(strings.TrimSuffix(impl.ServBoard(w), "\n"), "\n", "|")
	if got != want || impl.ServBoard(w) != boardBy(w) {
		t.Errorf("board %q, asked for %q, %q by hand", got, want, boardBy(w))
	}
}

// notOk asks that a world is not ok, and that this is answered everywhere.
func notOk(t *testing.T, what string, w impl.ServWorld) {
	t.Helper()
	if impl.ServOk(w) || impl.ServSafe(w) || impl.ServBoard(w) != "" {
		t.Errorf("%s: ok", what)
	}
	for _, e := range []impl.ServEvent{evTick(), {Kind: 13}, evFall(9)} {
		if x, code := impl.ServDo(w, e); code != 1 || servShape(x) != servShape(impl.ServWorld{}) {
			t.Errorf("%s: code %d, %s", what, code, servShape(x))
		}
	}
	if x := impl.ServCalm(w, 1); servShape(x) != servShape(impl.ServWorld{}) {
		t.Errorf("%s: calm %s", what, servShape(x))
	}
	for run := -1; run <= len(w.Runs); run++ {
		s, ok := impl.ServState(w, run)
		if impl.ServShardOf(w, run) != -1 || ok || shape(s) != shape(impl.RunState{}) {
			t.Errorf("%s: run %d has a shard, or a state", what, run)
		}
	}
}

// servShape is the whole of a world; an empty list and none are the same in it.
func servShape(w impl.ServWorld) string {
	return fmt.Sprintf("%+v", w)
}

func sameHist(a, b []impl.HistEntry) bool {
	return slices.EqualFunc(a, b, func(x, y impl.HistEntry) bool {
		return x.Kind == y.Kind && x.Id == y.Id && x.Key == y.Key && x.Name == y.Name && slices.Equal(x.Nums, y.Nums)
	})
}

func sameRun(a, b impl.ServRun) bool {
	return a.Name == b.Name && a.Flow == b.Flow && a.Chain == b.Chain && a.Closed == b.Closed && slices.Equal(a.Args, b.Args) && slices.Equal(a.Inbox, b.Inbox) && slices.Equal(a.Tries, b.Tries) && slices.Equal(a.Dues, b.Dues) && sameHist(a.Hist, b.Hist)
}

func sameWorker(a, b impl.ServWorker) bool {
	return a.Up == b.Up && slices.Equal(a.Terms, b.Terms) && slices.EqualFunc(a.Tasks, b.Tasks, func(x, y impl.ServTask) bool {
		return x.Run == y.Run && x.Chain == y.Chain && x.Term == y.Term && x.Len == y.Len && x.Take == y.Take && sameHist(x.Put, y.Put)
	})
}

// sameServ is quicker than two shapes.
func sameServ(a, b impl.ServWorld) bool {
	return a.Now == b.Now && slices.EqualFunc(a.Flows, b.Flows, same) && slices.Equal(a.Shards, b.Shards) && slices.EqualFunc(a.Runs, b.Runs, sameRun) && slices.EqualFunc(a.Workers, b.Workers, sameWorker) && slices.Equal(a.Effects, b.Effects) && slices.Equal(a.Tokens, b.Tokens)
}

func copyServ(w impl.ServWorld) impl.ServWorld {
	w.Flows = slices.Clone(w.Flows)
	for i := range w.Flows {
		w.Flows[i] = deepCopy(w.Flows[i])
	}
	w.Shards, w.Effects, w.Tokens = slices.Clone(w.Shards), slices.Clone(w.Effects), slices.Clone(w.Tokens)
	w.Runs = slices.Clone(w.Runs)
	for i, x := range w.Runs {
		x.Args, x.Hist, x.Inbox = slices.Clone(x.Args), copyHist(x.Hist), slices.Clone(x.Inbox)
		x.Tries, x.Dues = slices.Clone(x.Tries), slices.Clone(x.Dues)
		w.Runs[i] = x
	}
	w.Workers = slices.Clone(w.Workers)
	for i, k := range w.Workers {
		k.Terms, k.Tasks = slices.Clone(k.Terms), slices.Clone(k.Tasks)
		for j := range k.Tasks {
			k.Tasks[j].Put = copyHist(k.Tasks[j].Put)
		}
		w.Workers[i] = k
	}
	return w
}

// roomyServ has room behind all lists of a world that is filled with a thing.
func roomyServ(w impl.ServWorld) impl.ServWorld {
	w = copyServ(w)
	for i, lines := range w.Flows {
		w.Flows[i] = roomyLines(lines)
	}
	w.Flows = roomy(w.Flows, nil)
	w.Shards, w.Effects, w.Tokens = roomy(w.Shards, impl.ServShard{Term: 77}), roomy(w.Effects, impl.ServEffect{Tries: 77}), roomy(w.Tokens, 77)
	for i, x := range w.Runs {
		x.Args, x.Hist, x.Inbox = roomy(x.Args, 77), roomyHist(x.Hist), roomy(x.Inbox, impl.RunHap{Kind: 77})
		x.Tries, x.Dues = roomy(x.Tries, impl.ServTry{Id: 77}), roomy(x.Dues, impl.ServDue{Id: 77})
		w.Runs[i] = x
	}
	w.Runs = roomy(w.Runs, impl.ServRun{Chain: 77})
	for i, k := range w.Workers {
		for j := range k.Tasks {
			k.Tasks[j].Put = roomyHist(k.Tasks[j].Put)
		}
		k.Terms, k.Tasks = roomy(k.Terms, 77), roomy(k.Tasks, impl.ServTask{Run: 77})
		w.Workers[i] = k
	}
	w.Workers = roomy(w.Workers, impl.ServWorker{Up: true})
	return w
}

func roomyLines(lines []impl.FlowLine) []impl.FlowLine {
	lines = deepCopy(lines)
	for i := range lines {
		lines[i].Args = roomy(lines[i].Args, "behind")
	}
	return roomy(lines, impl.FlowLine{Kind: 77})
}

// eachList goes through the lists of a world, with their names; of lists in lists those behind an end, too.
func eachList(w impl.ServWorld, tell func(what string, spans []span, text string)) {
	told := func(what string, spans []span, list any) { tell(what, spans, fmt.Sprint(list)) }
	flows := w.Flows[:cap(w.Flows)]
	told("Flows", spanOf("Flows", flows), flows)
	for i, lines := range flows {
		whole := lines[:cap(lines)]
		told("lines", spanOf(fmt.Sprint("lines ", i), whole), whole)
		for _, l := range whole {
			told("operands", spanOf(fmt.Sprint("operands ", i), l.Args), l.Args[:cap(l.Args)])
		}
	}
	told("Shards", spanOf("Shards", w.Shards), w.Shards[:cap(w.Shards)])
	told("Effects", spanOf("Effects", w.Effects), w.Effects[:cap(w.Effects)])
	told("Tokens", spanOf("Tokens", w.Tokens), w.Tokens[:cap(w.Tokens)])
	runs := w.Runs[:cap(w.Runs)]
	told("Runs", spanOf("Runs", runs), runs)
	for _, x := range runs {
		told("Args", spanOf(x.Name+".Args", x.Args), x.Args[:cap(x.Args)])
		told("Hist", spansOfHist(x.Name+".Hist", x.Hist), wholeHist(x.Hist))
		told("Inbox", spanOf(x.Name+".Inbox", x.Inbox), x.Inbox[:cap(x.Inbox)])
		told("Tries", spanOf(x.Name+".Tries", x.Tries), x.Tries[:cap(x.Tries)])
		told("Dues", spanOf(x.Name+".Dues", x.Dues), x.Dues[:cap(x.Dues)])
	}
	workers := w.Workers[:cap(w.Workers)]
	told("Workers", spanOf("Workers", workers), workers)
	for i, k := range workers {
		told("Terms", spanOf(fmt.Sprint("Terms ", i), k.Terms), k.Terms[:cap(k.Terms)])
		tasks := k.Tasks[:cap(k.Tasks)]
		told("Tasks", spanOf(fmt.Sprint("Tasks ", i), tasks), tasks)
		for j, task := range tasks {
			told("Put", spansOfHist(fmt.Sprint("Put ", i, j), task.Put), wholeHist(task.Put))
		}
	}
}

func spansOfServ(what string, w impl.ServWorld) []span {
	var all []span
	eachList(w, func(name string, spans []span, text string) {
		for _, s := range spans {
			s.what = what + " " + s.what
			all = append(all, s)
		}
	})
	return all
}

// wholeServ is a world with all that lies behind the ends of its lists.
func wholeServ(w impl.ServWorld) string {
	var b strings.Builder
	fmt.Fprint(&b, w.Now)
	eachList(w, func(name string, spans []span, text string) {
		fmt.Fprintln(&b, name, text)
	})
	return b.String()
}

package tests

import (
	"fmt"
	"math/rand"
	"slices"
	"testing"

	"loop.example/dunlin/impl"
)

// shortFlows end soon, in each way, wait for signals and times, and begin anew.
var shortFlows = []string{
	orderFlow,
	waitFlow,
	againFlow,
	"workflow w|do a x undo y|do b x undo y|get c go|if c less 2|fail c|end|return b",
	"workflow w n m|both|do a x n|do a y a|and|sleep 2|get b no for 3|end|let n add a b|next n m",
	"workflow w n|patch p|do a x n|end|sleep 1|do b y|return b",
	"workflow w n|while n less 9|do a x n undo y|let n add n 1|end|get c go|next c",
	"workflow w|get a go|get a no|return a",
}

// anyService is a service that has just opened, of short workflows and lively ones.
func anyService(t *testing.T, r *rand.Rand) impl.ServWorld {
	t.Helper()
	var flows [][]impl.FlowLine
	for range 1 + r.Intn(4) {
		lines, _ := livelyFlow(r)
		if r.Intn(4) > 0 {
			lines = flow(t, shortFlows[r.Intn(len(shortFlows))])
		}
		flows = append(flows, lines)
	}
	w, ok := impl.ServOpen(flows, 1+r.Intn(3), 1+r.Intn(3))
	if !ok || !impl.ServSafe(w) {
		t.Fatalf("%v: %s", ok, servShape(w))
	}
	return w
}

// place is mostly a place of a list of so many.
func place(r *rand.Rand, count int) int {
	if count == 0 || r.Intn(40) == 0 {
		return r.Intn(count+3) - 1
	}
	return r.Intn(count)
}

// which is mostly a place of which something holds.
func which(r *rand.Rand, count int, holds func(place int) bool) int {
	if r.Intn(12) > 0 {
		for range 12 {
			if i := place(r, count); i >= 0 && i < count && holds(i) {
				return i
			}
		}
	}
	return place(r, count)
}

// anyEvent is mostly something that may happen to a world as it stands.
func anyEvent(r *rand.Rand, w impl.ServWorld) impl.ServEvent {
	up := func(who int) bool { return w.Workers[who].Up }
	run := place(r, len(w.Runs))
	switch n := r.Intn(100); {
	case n < 12:
		return evTick()
	case n < 18:
		return anyBegin(r, w)
	case n < 32:
		num := r.Intn(9) - 2
		if r.Intn(30) == 0 {
			num = 10000
		}
		return evSignal(run, r.Intn(90), []string{"go", "go", "go", "no", "no", "no", "other", "Go"}[r.Intn(8)], num)
	case n < 35:
		return evCancel(run)
	case n < 45:
		return evLease(which(r, len(w.Workers), up), place(r, len(w.Shards)))
	case n < 58:
		run = which(r, len(w.Runs), func(i int) bool { return len(w.Runs[i].Inbox) > 0 || len(w.Runs[i].Hist) == 0 })
		return evTake(which(r, len(w.Workers), func(who int) bool {
			return run >= 0 && run < len(w.Runs) && up(who) && w.Workers[who].Terms[shardBy(w, run)] > 0
		}), run)
	case n < 74:
		return evWrite(which(r, len(w.Workers), func(who int) bool { return len(w.Workers[who].Tasks) > 0 }))
	case n < 90:
		return anyAnswer(r, w, which(r, len(w.Runs), func(i int) bool { return len(w.Runs[i].Hist) > 0 && !w.Runs[i].Closed }))
	case n < 92:
		return evFall(which(r, len(w.Workers), up))
	case n < 95:
		return evRise(which(r, len(w.Workers), func(who int) bool { return !up(who) }))
	case n < 98:
		return anyDeploy(r, w)
	}
	e := impl.ServEvent{Kind: r.Intn(16) - 1, Who: r.Intn(5) - 1, Run: r.Intn(8) - 1, Id: r.Intn(8) - 1, Name: []string{"", "a", "X", "go"}[r.Intn(4)], Lost: r.Intn(2) == 0}
	for range r.Intn(4) {
		e.Nums = append(e.Nums, r.Intn(30000)-15000)
	}
	return e
}

// anyEvents are one, or all that it takes to go on with a run, mostly by who may.
func anyEvents(r *rand.Rand, w impl.ServWorld) []impl.ServEvent {
	if len(w.Runs) < 4 && r.Intn(3) == 0 {
		return []impl.ServEvent{anyBegin(r, w)}
	}
	if len(w.Runs) == 0 || r.Intn(3) == 0 {
		return []impl.ServEvent{anyEvent(r, w)}
	}
	run := r.Intn(len(w.Runs))
	shard := shardBy(w, run)
	who := which(r, len(w.Workers), func(who int) bool {
		k := w.Workers[who]
		return k.Up && (k.Terms[shard] == w.Shards[shard].Term || r.Intn(9) == 0)
	})
	list := []impl.ServEvent{evTick(), evLease(who, shard), anyAnswer(r, w, run), evTake(who, run), evWrite(who)}
	if r.Intn(6) == 0 {
		i := r.Intn(len(list))
		return slices.Delete(list, i, i+1)
	}
	return list[r.Intn(4):]
}

func anyBegin(r *rand.Rand, w impl.ServWorld) impl.ServEvent {
	e := evBegin([]string{"a", "b", "c", "d", "e", "f", "g", "ab", "ba", "m1", "zzzzzzzz", "B"}[r.Intn(12)], place(r, len(w.Flows)))
	count := r.Intn(4)
	if r.Intn(20) > 0 && e.Id >= 0 && e.Id < len(w.Flows) {
		count = len(w.Flows[e.Id][0].Args)
	}
	for range count {
		e.Nums = append(e.Nums, r.Intn(6))
	}
	return e
}

// anyAnswer is a try, or a time that comes, mostly of what is asked for.
func anyAnswer(r *rand.Rand, w impl.ServWorld, run int) impl.ServEvent {
	s, _ := impl.ServState(w, run)
	if len(s.Asks) == 0 || r.Intn(20) == 0 {
		return impl.ServEvent{Kind: impl.ServTries + r.Intn(2), Run: run, Id: r.Intn(9) - 1}
	}
	a := s.Asks[r.Intn(len(s.Asks))]
	if a.Name == "" {
		return evFire(run, a.Id)
	}
	return impl.ServEvent{Kind: impl.ServTries, Run: run, Id: a.Id, Lost: r.Intn(4) == 0}
}

func anyDeploy(r *rand.Rand, w impl.ServWorld) impl.ServEvent {
	id := place(r, len(w.Flows))
	if id < 0 || id >= len(w.Flows) {
		return evDeploy(id, nil)
	}
	lines := w.Flows[id]
	switch r.Intn(4) {
	case 0:
		return evDeploy(id, alteredFlow(r, lines))
	case 1:
		other, _ := livelyFlow(r)
		return evDeploy(id, other)
	case 2:
		return evDeploy(id, lines[:1+r.Intn(len(lines))])
	}
	if more, ok := impl.VerInsert(lines, 1+r.Intn(len(lines)-1), []string{"s", "u", "v"}[r.Intn(3)], []impl.FlowLine{{Kind: impl.FlowSleep, Args: []string{"1"}}}); ok {
		lines = more
	}
	return evDeploy(id, lines)
}

// spoilServ changes a thing or two of a world; often it is ok all the same.
func spoilServ(r *rand.Rand, w impl.ServWorld) impl.ServWorld {
	w = copyServ(w)
	for range 1 + r.Intn(3) {
		num := []int{0, 1, -1, 2, 3, 5, 9, 30, 60, 99, 100, 200, 400, 401, 9999, 10000, -9999, -10000, 100000, 100001, 100004, 100005}[r.Intn(22)]
		switch n := r.Intn(20); {
		case n < 3:
			spoilServLists(r, &w, num)
		case n < 5:
			s := &w.Shards[r.Intn(len(w.Shards))]
			*[]*int{&s.Owner, &s.Term, &s.Until}[r.Intn(3)] = num
		case n < 9:
			spoilWorker(r, &w, &w.Workers[r.Intn(len(w.Workers))], num)
		case n < 18 && len(w.Runs) > 0:
			spoilRun(r, &w, &w.Runs[r.Intn(len(w.Runs))], num)
		case n < 19:
			w.Now = num
		case r.Intn(3) == 0:
			i := r.Intn(len(w.Flows))
			w.Flows[i] = w.Flows[i][:r.Intn(len(w.Flows[i])+1)]
		}
	}
	return w
}

func spoilServLists(r *rand.Rand, w *impl.ServWorld, num int) {
	switch r.Intn(7) {
	case 0:
		w.Tokens = append(w.Tokens, num)
	case 1:
		w.Effects = append(w.Effects, impl.ServEffect{Key: []string{"", "z", "zz", "a/0/0"}[r.Intn(4)], Answer: num, Tries: 1})
	case 2:
		if len(w.Effects) > 0 {
			e := &w.Effects[r.Intn(len(w.Effects))]
			*[]*int{&e.Answer, &e.Tries}[r.Intn(2)] = num
		}
	case 3:
		if len(w.Effects) > 0 {
			w.Effects = slices.Delete(w.Effects, 0, 1)
		}
	case 4:
		w.Flows = append(w.Flows, w.Flows[0])
	case 5:
		w.Runs = append(w.Runs, impl.ServRun{Name: []string{"z", "zz", "zzzzzzzz", "zzzzzzzzz", "Z"}[r.Intn(5)], Args: make([]int, r.Intn(3))})
	case 6:
		w.Workers = append(w.Workers, impl.ServWorker{Up: r.Intn(2) == 0, Terms: make([]int, len(w.Shards))})
	}
}

func spoilWorker(r *rand.Rand, w *impl.ServWorld, k *impl.ServWorker, num int) {
	switch n := r.Intn(6); {
	case n == 0:
		k.Up = !k.Up
	case n == 1:
		k.Terms[r.Intn(len(k.Terms))] = num
	case n == 2 && len(w.Runs) > 0 && worldOkBy(*w) == "":
		x := r.Intn(len(w.Runs))
		task := impl.ServTask{Run: x, Chain: w.Runs[x].Chain, Term: w.Shards[shardBy(*w, x)].Term, Len: len(w.Runs[x].Hist)}
		if r.Intn(3) > 0 {
			task.Put, task.Take = takesBy(*w, x)
		}
		k.Tasks = append(k.Tasks, task)
	case len(k.Tasks) > 0:
		task := &k.Tasks[r.Intn(len(k.Tasks))]
		*[]*int{&task.Run, &task.Chain, &task.Term, &task.Len, &task.Take}[r.Intn(5)] = num
		if r.Intn(3) == 0 {
			task.Put = spoilHist(r, task.Put)
		}
	}
}

func spoilRun(r *rand.Rand, w *impl.ServWorld, x *impl.ServRun, num int) {
	switch r.Intn(13) {
	case 0:
		x.Name = []string{"a", "n", "z", "A", "", "zzzzzzzzz"}[r.Intn(6)]
	case 1:
		x.Chain = num
	case 2:
		x.Args = append(x.Args, num)
	case 3:
		if len(x.Args) > 0 {
			x.Args[0] = num
		}
	case 4, 5:
		h := impl.RunHap{Kind: r.Intn(7), Id: r.Intn(9) - 1, Name: []string{"go", "no", "Go", ""}[r.Intn(4)], Num: num}
		for range 1 + r.Intn(3)*r.Intn(15) {
			x.Inbox = append(x.Inbox, h)
		}
	case 6:
		x.Tries = append(x.Tries, impl.ServTry{Id: 1 + r.Intn(12), Tries: []int{1, 2, num}[r.Intn(3)], Next: num})
	case 7:
		x.Dues = append(x.Dues, impl.ServDue{Id: r.Intn(12), Tick: num})
	case 8:
		x.Tries, x.Dues = nil, nil
	case 9:
		x.Closed = !x.Closed
	case 10:
		x.Hist = spoilHist(r, x.Hist)
	case 11:
		if lines := w.Flows[max(0, min(x.Flow, len(w.Flows)-1))]; len(lines) > 0 {
			x.Hist = anyPast(r, lines, x.Args)
		}
	case 12:
		x.Flow = num % 6
	}
}

// seenOf says what an event came to.
func seenOf(e impl.ServEvent, code int) string {
	return fmt.Sprintf("kind %d code %d", e.Kind, code)
}

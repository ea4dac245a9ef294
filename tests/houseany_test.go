package tests

import (
	"fmt"
	"math/rand"
	"slices"
	"strconv"
	"testing"

	"loop.example/dunlin/impl"
)

// jobFlows are over soon, most of them, with a signal or without one.
var jobFlows = []string{
	jobFlow,
	"workflow tiny|return 1",
	"workflow w n|do a x n undo y|do b x a|if b less 0|fail a|end|return b",
	"workflow w n m|both|do a x n|and|do b y m|end|sleep 1|let a mul a b|return a",
	"workflow w n|patch p|do a x n|end|sleep 2|do b y|return b",
	"workflow w n|do a x n undo y|get b go|return b",
	"workflow w n|do a x n|if n less 3|let n add n 1|next n|end|return n",
}

// anyHouse is one that has just opened.
func anyHouse(t *testing.T, r *rand.Rand) impl.House {
	t.Helper()
	var flows [][]impl.FlowLine
	for range 1 + r.Intn(3) {
		lines := flow(t, jobFlows[r.Intn(len(jobFlows))])
		switch r.Intn(8) {
		case 0:
			lines, _ = livelyFlow(r)
		case 1:
			lines = flow(t, shortFlows[r.Intn(len(shortFlows))])
		}
		flows = append(flows, lines)
	}
	var plans []impl.HousePlan
	for _, name := range [][]string{{"a"}, {"p", "pq"}, {"b", "c", "z"}, {"a", "ab", "zz"}, nil}[min(4, r.Intn(14)%5)] {
		plans = append(plans, anyHousePlan(r, flows, name, policies[r.Intn(5)]))
	}
	h, ok := impl.HouseOpen(flows, 1+r.Intn(3), 1+r.Intn(3), plans)
	if !ok || !impl.HouseSafe(h) {
		t.Fatalf("%v: %s", ok, houseShape(h))
	}
	return h
}

// anyHousePlan has times that are close.
func anyHousePlan(r *rand.Rand, flows [][]impl.FlowLine, name string, policy int) impl.HousePlan {
	p := housePlan(name, r.Intn(len(flows)), nil, policy, []int{0, 3, 9, 40, 1000}[r.Intn(5)])
	for range flows[p.Flow][0].Args {
		p.Args = append(p.Args, r.Intn(6))
	}
	for range 1 + r.Intn(2) {
		every, from := 1+r.Intn(8), r.Intn(20)
		if policy == impl.PlanInstead {
			every += r.Intn(12)
		}
		one := rule(every, r.Intn(every), from, from+r.Intn(150))
		if r.Intn(3) == 0 {
			one.But = []int{from + r.Intn(9)}
		}
		p.Plan.Rules = append(p.Plan.Rules, one)
	}
	return p
}

// anyMoves are one, or some that belong together.
func anyMoves(r *rand.Rand, h impl.House) []impl.HouseEvent {
	var list []impl.HouseEvent
	serve := func(events ...impl.ServEvent) []impl.HouseEvent {
		for _, e := range events {
			list = append(list, evServe(e))
		}
		return list
	}
	closed := func(run int) bool { return h.Serv.Runs[run].Closed }
	isLive := func(run int) bool { return !h.Serv.Runs[run].Closed }
	switch n := r.Intn(100); {
	case n < 22:
		serve(slices.Repeat([]impl.ServEvent{evTick()}, 1+r.Intn(4))...)
		return append(list, evLook())
	case n < 27:
		return append(list, evLook())
	case n < 40:
		return append(list, evKeep(which(r, len(h.Serv.Runs), closed)))
	case n < 43 && len(h.Serv.Runs) > 0:
		// What is owed a cancelling finds no room, and then some.
		run := which(r, len(h.Serv.Runs), func(run int) bool { return isLive(run) && mayBeStopped(h, run) })
		serve(slices.Repeat([]impl.ServEvent{evCancel(run)}, 30)...)
		serve(slices.Repeat([]impl.ServEvent{evTick()}, 1+r.Intn(12))...)
		list = append(list, evLook())
		return append(serve(anyTurn(r, h.Serv, run)...), evLook(), evLook())
	case n < 46:
		// A run is put away while workers have others in their hands.
		who := which(r, len(h.Serv.Workers), func(who int) bool { return h.Serv.Workers[who].Up })
		for run := range h.Serv.Runs {
			serve(evLease(who, shardBy(h.Serv, run)), evTake(who, run))
		}
		return append(list, evLook(), evKeep(which(r, len(h.Serv.Runs), closed)))
	case n < 48:
		return serve(anyBegin(r, h.Serv))
	case n < 70 && len(h.Serv.Runs) > 0:
		return serve(anyTurn(r, h.Serv, which(r, len(h.Serv.Runs), isLive))...)
	case n < 72:
		return append(list, impl.HouseEvent{Kind: r.Intn(7) - 2, Serv: anyEvent(r, h.Serv), Run: r.Intn(9) - 1})
	}
	return serve(anyEvents(r, h.Serv)...)
}

// mayBeStopped says whether a run is that of a time whose place another one takes.
func mayBeStopped(h impl.House, run int) bool {
	plan, tick, ok := timeBy(h, h.Serv.Runs[run].Name)
	return ok && h.Plans[plan].Plan.Policy == impl.PlanInstead && slices.Contains(h.Plans[plan].Plan.Goes, tick)
}

// anyTurn is all that it takes to go on with a run.
func anyTurn(r *rand.Rand, w impl.ServWorld, run int) []impl.ServEvent {
	if !between(0, len(w.Runs)-1, run) {
		return nil
	}
	shard := shardBy(w, run)
	who := which(r, len(w.Workers), func(who int) bool { return w.Workers[who].Up && w.Workers[who].Terms[shard] == w.Shards[shard].Term })
	return []impl.ServEvent{evTick(), evLease(who, shard), anyAnswer(r, w, run), evTake(who, run), evWrite(who), evWrite(who), evTake(who, run), evWrite(who)}
}

// ledger keeps beside a house what was begun ever, and what its plans told ever.
type ledger struct {
	begun map[string]bool
	past  map[string]impl.HousePast
	told  [][]impl.PlanTold
}

func newLedger(h impl.House) *ledger {
	return &ledger{begun: map[string]bool{}, past: map[string]impl.HousePast{}, told: make([][]impl.PlanTold, len(h.Plans))}
}

// goesOn asks that between two houses nothing was forgotten, and nothing began twice.
func (l *ledger) goesOn(t *testing.T, what string, ahead, behind impl.House) {
	t.Helper()
	before, after := runNames(ahead), runNames(behind)
	for _, name := range after {
		if slices.Contains(before, name) {
			continue
		}
		if l.begun[name] {
			t.Fatalf("%s: %s began twice\n%s\n%s", what, name, houseShape(ahead), houseShape(behind))
		}
		l.begun[name] = true
	}
	stays := copyServ(ahead.Serv)
	stays.Runs = nil
	for run, x := range ahead.Serv.Runs {
		if slices.Contains(after, x.Name) {
			stays.Runs = append(stays.Runs, x)
			continue
		}
		s := stateBy(ahead.Serv, run)
		if i := pastBy(behind, x.Name); i < 0 || !x.Closed || behind.Past[i].Stands != s.Stands || behind.Past[i].Result != s.Result {
			t.Fatalf("%s: %s was forgotten\n%s\n%s", what, x.Name, houseShape(ahead), houseShape(behind))
		}
	}
	nothingLost(t, stays, behind.Serv)
	l.asks(t, what, behind)
}

// asks is of a house as it stands.
func (l *ledger) asks(t *testing.T, what string, h impl.House) {
	t.Helper()
	for name := range l.begun {
		if slices.Contains(runNames(h), name) == (pastBy(h, name) >= 0) {
			t.Fatalf("%s: %s began, and is not just once there or past: %s", what, name, houseShape(h))
		}
	}
	if len(h.Serv.Runs)+len(h.Past) != len(l.begun) {
		t.Fatalf("%s: there is what did not begin: %s", what, houseShape(h))
	}
	for _, p := range h.Past {
		if kept, there := l.past[p.Name]; there && kept != p {
			t.Fatalf("%s: %+v became %+v", what, kept, p)
		}
		l.past[p.Name] = p
	}
	if len(l.past) != len(h.Past) {
		t.Fatalf("%s: what was past is not any more: %s", what, houseShape(h))
	}
	owed := map[impl.HouseOwe]bool{}
	for _, o := range h.Owes {
		owed[o] = true
	}
	for i, p := range h.Plans {
		eachTimeOnce(t, p.Plan, -1, l.told[i])
		became := map[int][]int{}
		for _, one := range l.told[i] {
			became[one.Tick] = append(became[one.Tick], one.What)
		}
		for tick := range p.Plan.Last + 1 {
			// What began has its run, or is owed it, or was stopped ahead of it; nothing else has one.
			began := len(became[tick]) > 0 && became[tick][0] == impl.TimeBegan
			run, owes := l.begun[p.Name+strconv.Itoa(tick)], owed[impl.HouseOwe{Plan: i, Tick: tick}]
			ahead := slices.Contains(became[tick], impl.TimeStopped)
			if run && !began || run && owes || began && !run && !owes && !ahead || owes && !slices.Contains(p.Plan.Goes, tick) {
				t.Fatalf("%s: %s%d: told %v, run %v, owed %v: %s", what, p.Name, tick, became[tick], run, owes, houseShape(h))
			}
		}
	}
}

// rests lets calm rounds pass, one by one, and asks for all on the way.
func (l *ledger) rests(t *testing.T, h impl.House, rounds int) impl.House {
	t.Helper()
	for range rounds {
		last := h
		h = rests(t, h, 1)
		for i, step := range houseCalmSteps(last) {
			if i == 1 {
				l.timesTold(last, evLook())
			}
			l.goesOn(t, "a calm round", last, step)
			last = step
		}
	}
	return h
}

// timesTold are what the plans of a house tell by an event, reckoned once more.
func (l *ledger) timesTold(h impl.House, e impl.HouseEvent) {
	if e.Kind != impl.HouseLooks {
		return
	}
	for i, told := range houseLookBy(h).told {
		l.told[i] = append(l.told[i], told...)
	}
}

// noteHouse notes what random houses must have met.
func noteHouse(seen map[string]int, ahead impl.House, e impl.HouseEvent, behind impl.House, code int) {
	switch e.Kind {
	case impl.HouseServes:
		seen[fmt.Sprint("serves ", e.Serv.Kind, " code ", code)]++
	case impl.HouseKeeps:
		seen[fmt.Sprint("keeps code ", code)]++
		if code == 0 && e.Run < len(behind.Serv.Runs) {
			seen["a run moved"]++
			for _, k := range behind.Serv.Workers {
				if slices.ContainsFunc(k.Tasks, func(task impl.ServTask) bool { return task.Run >= e.Run }) {
					seen["a task moved"]++
				}
			}
		}
		if code == 0 {
			seen[fmt.Sprint("kept ", behind.Past[pastBy(behind, ahead.Serv.Runs[e.Run].Name)].Stands)]++
		}
	case impl.HouseLooks:
		noteLookOfHouse(seen, ahead, behind)
	}
}

func noteLookOfHouse(seen map[string]int, ahead, behind impl.House) {
	for i, told := range houseLookBy(ahead).told {
		for _, one := range told {
			name := ahead.Plans[i].Name + strconv.Itoa(one.Tick)
			seen[fmt.Sprint("policy ", ahead.Plans[i].Plan.Policy, " ", toldNames[one.What])]++
			isRun := slices.Contains(runNames(behind), name)
			if one.What == impl.TimeStopped && !isRun && pastBy(behind, name) < 0 {
				seen["stopped ahead of its run"]++
			}
			if one.What == impl.TimeStopped && isRun {
				seen["stopped while its run is there"]++
			}
		}
	}
	for _, o := range behind.Owes {
		seen[fmt.Sprint("owed, cancels ", o.Cancel)]++
	}
	for _, o := range ahead.Owes {
		if !slices.Contains(behind.Owes, o) {
			seen[fmt.Sprint("not owed any more, cancels ", o.Cancel)]++
		}
	}
}

// lived is a house behind things that happened to it.
func lived(t *testing.T, r *rand.Rand, moves int) impl.House {
	t.Helper()
	h := anyHouse(t, r)
	for range moves {
		for _, e := range anyMoves(r, h) {
			h, _ = impl.HouseDo(h, e)
		}
	}
	return h
}

// spoilHouse changes a thing or two of a house; often it is ok all the same.
func spoilHouse(r *rand.Rand, h impl.House) impl.House {
	h = copyHouse(h)
	for range 1 + r.Intn(2) {
		num := []int{-1, 0, 1, 2, 3, 4, 5, 6, 9, 9999, 10000, -9999, -10000, 100000, h.Serv.Now, h.Serv.Now + 1}[r.Intn(16)]
		name := []string{"a", "p", "zz", "pq", "", "abc", "A", "p2", "a0", "q77"}[r.Intn(10)]
		switch n := r.Intn(14); {
		case n < 2 && len(h.Serv.Runs) > 0:
			fillInbox(&h, r.Intn(len(h.Serv.Runs)))
		case n < 4 && houseOkBy(h) == "":
			h.Serv = spoilServ(r, h.Serv)
		case n < 7 && len(h.Plans) > 0:
			spoilHousePlan(r, &h, &h.Plans[r.Intn(len(h.Plans))], num, name)
		case n < 10:
			h.Owes = append(h.Owes, anyOwe(r, h, num))
		case n < 11:
			h.Past = append(h.Past, impl.HousePast{Name: name, Stands: num, Result: num})
			if r.Intn(4) == 0 {
				break
			}
			slices.SortFunc(h.Past, func(x, y impl.HousePast) int { return slices.Compare([]byte(x.Name), []byte(y.Name)) })
		case n < 12 && len(h.Past) > 0:
			past := &h.Past[r.Intn(len(h.Past))]
			*[]*int{&past.Stands, &past.Result}[r.Intn(2)] = num
		case n < 13 && len(h.Serv.Runs) > 0:
			run := r.Intn(len(h.Serv.Runs))
			h.Serv.Runs[run].Name = []string{name, "p" + strconv.Itoa(max(0, num)), h.Serv.Runs[run].Name + "0"}[r.Intn(3)]
			slices.SortFunc(h.Serv.Runs, func(x, y impl.ServRun) int { return slices.Compare([]byte(x.Name), []byte(y.Name)) })
		default:
			slices.Reverse(h.Owes)
			if len(h.Owes) > 0 && r.Intn(2) == 0 {
				h.Owes = h.Owes[1:]
			}
		}
	}
	return h
}

// fillInbox leaves no room for what a run of a time is owed then.
func fillInbox(h *impl.House, run int) {
	x := &h.Serv.Runs[run]
	x.Inbox = slices.Repeat(haps(cancel()), 30)
	if plan, tick, ok := timeBy(*h, x.Name); ok && !slices.Contains(h.Owes, impl.HouseOwe{Plan: plan, Tick: tick, Cancel: true}) {
		h.Owes = append(h.Owes, impl.HouseOwe{Plan: plan, Tick: tick, Cancel: true})
	}
}

func spoilHousePlan(r *rand.Rand, h *impl.House, p *impl.HousePlan, num int, name string) {
	switch r.Intn(8) {
	case 0:
		p.Name = name
	case 1:
		p.Flow = num
	case 2:
		p.Args = append(p.Args, num)
	case 3:
		if len(p.Args) > 0 {
			p.Args[0] = num
		}
	case 4:
		p.Plan = spoilPlan(r, p.Plan)
	case 5:
		p.Plan.Last = h.Serv.Now + r.Intn(3) - 1
	case 6:
		p.Plan.Goes = nil
	case 7:
		h.Plans = append(h.Plans, *p)
	}
}

// anyOwe is often of a time that goes on, or of a run that is there.
func anyOwe(r *rand.Rand, h impl.House, num int) impl.HouseOwe {
	o := impl.HouseOwe{Plan: r.Intn(4) - 1, Tick: num, Cancel: r.Intn(2) == 0}
	if len(h.Plans) == 0 || r.Intn(4) == 0 {
		return o
	}
	o.Plan = r.Intn(len(h.Plans))
	if goes := h.Plans[o.Plan].Plan.Goes; len(goes) > 0 && r.Intn(2) == 0 {
		o.Tick = goes[r.Intn(len(goes))]
	}
	if len(h.Serv.Runs) > 0 && r.Intn(2) == 0 {
		if plan, tick, ok := timeBy(h, h.Serv.Runs[r.Intn(len(h.Serv.Runs))].Name); ok && houseOkBy(h) == "" {
			o.Plan, o.Tick = plan, tick
		}
	}
	return o
}

package tests

import (
	"fmt"
	"slices"
	"testing"

	"loop.example/dunlin/impl"
)

// kept is what was answered, or handed in: how it was, and where it lies.
type kept struct {
	what  string
	whole func() string
	was   string
	spans []span
}

// keeper keeps all that was answered, so that it is seen if something of it is changed, or shared, by whatever comes later.
type keeper struct {
	*testing.T
	list []kept
}

func (k *keeper) keeps(what string, spans []span, whole func() string) {
	k.list = append(k.list, kept{what, whole, whole(), spans})
}

// asks asks that all is as it was, and lies apart.
func (k *keeper) asks() {
	k.Helper()
	var all []span
	for _, one := range k.list {
		if now := one.whole(); now != one.was {
			k.Errorf("%s: %s became %s", one.what, one.was, now)
		}
		for _, s := range one.spans {
			s.what = one.what + ", " + s.what
			all = append(all, s)
		}
	}
	lieApart(k.T, all)
}

func (k *keeper) lines(what string, lines []impl.FlowLine, ok bool) []impl.FlowLine {
	k.Helper()
	if !ok {
		k.Fatalf("%s: no lines", what)
	}
	k.keeps(what, spansOfLines("lines", lines), func() string {
		text := fmt.Sprint(lines[:cap(lines)])
		for _, l := range lines {
			text += fmt.Sprint(l.Args[:cap(l.Args)])
		}
		return text
	})
	return lines
}

func (k *keeper) state(what string, s impl.RunState, ok bool) impl.RunState {
	k.Helper()
	if !ok {
		k.Fatalf("%s: no state", what)
	}
	k.keeps(what, spansOf("state", s), func() string { return whole(s) })
	return s
}

func (k *keeper) hist(what string, list []impl.HistEntry, ok bool) []impl.HistEntry {
	k.Helper()
	if !ok || len(list) == 0 {
		k.Fatalf("%s: no history", what)
	}
	k.keeps(what, spansOfHist("history", list), func() string { return wholeHist(list) })
	return list
}

func (k *keeper) plan(what string, p impl.Plan, told []impl.PlanTold) impl.Plan {
	k.keeps(what, slices.Concat(spansOfPlan("plan", p), spanOf("told", told)), func() string { return wholePlan(p) + fmt.Sprint(told[:cap(told)]) })
	return p
}

func (k *keeper) serv(what string, w impl.ServWorld) impl.ServWorld {
	k.keeps(what, spansOfServ("service", w), func() string { return wholeServ(w) })
	return w
}

func (k *keeper) house(what string, h impl.House) impl.House {
	k.keeps(what, spansOfHouse("house", h), func() string { return wholeHouse(h) })
	return h
}

func (k *keeper) reg(what string, w impl.RegWorld) impl.RegWorld {
	k.keeps(what, spansOfReg("regions", w), func() string { return wholeReg(w) })
	return w
}

// flows are lines that were read, went into steps, runs and histories, and were changed twice.
func (k *keeper) flows() []impl.FlowLine {
	lines, f := impl.FlowParse("workflow w n\ndo a pay n undo back\npatch p\n  sleep 2\nend\nget b go for 9\nreturn b")
	k.lines("read", lines, f.Code == 0)
	steps, _ := impl.FlowMake(lines)
	k.keeps("made", spanOf("steps", steps), func() string { return fmt.Sprint(steps[:cap(steps)]) })
	args, marks, signals := []int{2}, []string{"p"}, vars("go 4", "no 5")
	begun, ok := impl.RunStart(lines, args, marks, true)
	k.state("begun", begun, ok)
	for _, h := range haps(signal("no", 1), done(1, 3), signal("go", 4), cancel()) {
		next, code := impl.RunDo(lines, begun, h, marks, true)
		k.state(fmt.Sprint("behind ", h), next, code == 0)
	}
	played, list := impl.RunPlay(lines, args, signals, []int{1}, 9)
	k.state("played", played, len(list) > 0)
	folded, ok := impl.RunFold(lines, args, list)
	k.state("folded", folded, ok)
	past := k.hist("of a play", impl.HistOf(lines, args, signals, []int{1}, 1), true)
	more, code := impl.HistMore(lines, past, signal("no", 7))
	k.hist("more", more, code == 0)
	again, code := impl.HistMore(lines, past, done(9, 7))
	k.hist("no more", again, code == 3)
	read, ok := impl.HistRead(impl.HistWrite(more))
	k.hist("read", read, ok)
	replayed, fault := impl.HistReplay(lines, more)
	k.state("replayed", replayed, fault.Code == 0)
	once, ok := impl.VerSwap(lines, 1, 2, "one", linesOf(k.T, "do a mail n 1"))
	k.lines("swapped", once, ok)
	twice, ok := impl.VerInsert(once, 6, "two", linesOf(k.T, "do c mail n 1"))
	k.lines("put in", twice, ok)
	other, ok := impl.VerSwap(flow(k.T, "workflow w n|do a x n|return a"), 2, 2, "one", nil)
	code, broken := impl.VerLook(lines, k.lines("another one", other, ok))
	k.hist("broken", broken, code == 1)
	k.keeps("what was handed in", slices.Concat(spanOf("args", args), spanOf("marks", marks), spanOf("signals", signals), spanOf("list", list)), func() string { return fmt.Sprint(args, marks, signals, list) })
	return twice
}

// serves are services behind each thing that happened.
func (k *keeper) serves(flows [][]impl.FlowLine) impl.ServWorld {
	w, ok := impl.ServOpen(flows, 2, 2)
	if k.serv("opened", w); !ok {
		k.Fatal("not opened")
	}
	script := "begin x 0 2|begin y 1 3|lease 0 0|lease 0 1|take 0 0|take 0 1|write 0|write 0|try 0 1|signal 0 5 go 6|signal 1 6 no 7|take 0 0|cancel 1|take 0 1|fall 0|rise 0|tick*5|lease 1 0|lease 1 1|take 1 0|write 1|lost 0 1"
	for _, c := range servDeeds.events(k.T, script) {
		w, _ = impl.ServDo(w, c.event)
		k.serv(fmt.Sprintf("behind %+v", c.event), w)
	}
	e := evDeploy(1, k.lines("deployed", roomyLines(flows[1]), true))
	w, code := impl.ServDo(w, e)
	if k.serv("deployed", w); code != 0 {
		k.Fatalf("deployed: code %d", code)
	}
	for rounds := range 3 {
		k.serv("calm", impl.ServCalm(w, rounds))
	}
	s, ok := impl.ServState(w, 0)
	k.state("of a run", s, ok)
	return w
}

// houses are plans, and houses behind each thing that happened.
func (k *keeper) houses(flows [][]impl.FlowLine) {
	rules, _ := impl.CalRead("every 4 at 2 from 0 to 20 but 6\nevery 9 at 0 from 0 to 99\n")
	k.keeps("rules", spansOfCal("rules", rules), func() string { return wholeCal(rules) })
	p, _ := impl.PlanNew(rules, impl.PlanInstead, 6, -1)
	k.plan("new", p, nil)
	for now := range 4 {
		next, told := impl.PlanTick(p, 3*now)
		k.plan("looked at", next, told)
		ended, told := impl.PlanEnds(next, 2, 3*now+1)
		k.plan("ended", ended, told)
		p = next
	}
	plans := []impl.HousePlan{{Name: "p", Flow: 0, Args: []int{2}, Plan: p}, {Name: "q", Flow: 1, Args: []int{3}, Plan: impl.Plan{Rules: rules, Policy: impl.PlanBoth}}}
	k.keeps("plans", spanOf("plans", plans), func() string { return wholePlans(plans) })
	h, ok := impl.HouseOpen(flows, 2, 2, plans)
	if k.house("opened", h); !ok {
		k.Fatal("not opened")
	}
	for _, c := range houseDeeds.events(k.T, "look|begin x 0 2|tick*2|look|lease 0 0|lease 0 1|take 0 0|write 0|try 0 1|tick*9|look|take 0 1|write 0|cancel 1|take 0 1|write 0|keep 1|keep 0") {
		h, _ = impl.HouseDo(h, c.event)
		k.house(fmt.Sprintf("behind %+v", c.event), h)
	}
	for rounds := range 3 {
		k.house("calm", impl.HouseCalm(h, rounds))
	}
}

// regions are two regions behind each thing that happened.
func (k *keeper) regions(flows [][]impl.FlowLine) {
	w, ok := impl.RegOpen(flows)
	if k.reg("opened", w); !ok {
		k.Fatal("not opened")
	}
	for _, c := range regDeeds.events(k.T, "begin 0 x 0 2|begin 0 y 1 3|send 0|keep 0|bring 0|try 0 x 1|signal 0 x 7 go 5|take 1|try 1 x 1|signal 1 x 8 go 6|send 1|keep 0|keep 0|send 0|bring 1|fall 0|rise 0|take 0|lose 0") {
		w, _ = impl.RegDo(w, c.event)
		k.reg(fmt.Sprintf("behind %+v", c.event), w)
	}
	for rounds := range 3 {
		k.reg("calm", impl.RegCalm(w, rounds))
	}
	s, ok := impl.RegState(w, 1, "x")
	k.state("at a site", s, ok)
}

// All parts, one behind the other, each with what the one ahead of it answered: nothing that was handed in, or answered, is changed by what comes later, and no two of them share memory.
func TestAllTogetherIsNewMemory(t *testing.T) {
	k := &keeper{T: t}
	twice := k.flows()
	flows := [][]impl.FlowLine{twice, k.lines("another flow", roomyLines(flow(t, orderFlow)), true)}
	k.keeps("flows", spanOf("flows", flows), func() string { return fmt.Sprint(flows) })
	w := k.serves(flows)
	k.houses(w.Flows)
	k.regions(w.Flows)
	k.asks()
	if len(k.list) < 90 {
		t.Errorf("%d were kept", len(k.list))
	}
}

// One order, read, played, written, changed while it is under way, in a service whose workers fall, by a plan, and in two regions: it comes to the same.
func TestOneOrderThroughAllParts(t *testing.T) {
	lines := flow(t, "workflow order n|do a pay n undo back|do b mail a|return b")
	played, list := impl.RunPlay(lines, []int{2}, nil, nil, 9)
	past := impl.HistOf(lines, []int{2}, nil, nil, 9)
	if s, ok := impl.RunFold(lines, []int{2}, list); !ok || shape(s) != shape(played) || played.Stands != impl.RunDone {
		t.Fatalf("%s", shape(played))
	}
	replays(t, lines, past, played)
	once, _ := impl.VerSwap(lines, 2, 3, "one", linesOf(t, "let a add a 0\ndo b mail a"))
	twice, ok := impl.VerInsert(once, 1, "two", linesOf(t, "sleep 3"))
	if !ok {
		t.Fatal("not let")
	}
	comesTo := func(what string, s impl.RunState, ok bool) {
		t.Helper()
		if !ok || s.Stands != played.Stands || s.Result != played.Result {
			t.Errorf("%s: %s, asked for %s", what, shape(s), shape(played))
		}
	}
	w, _ := impl.ServOpen([][]impl.FlowLine{lines}, 1, 2)
	w = serves(t, w, "begin x 0 2|lease 0 0|take 0 0|write 0|lost 0 1|fall 0")
	w = does(t, w, evDeploy(0, twice), 0)
	w = impl.ServCalm(w, 12)
	s, ok := impl.ServState(w, 0)
	comesTo("a service", s, ok)
	h := housed(t, [][]impl.FlowLine{lines}, 1, 1, housePlan("p", 0, []int{2}, impl.PlanSkip, 0, rule(5, 1, 0, 1)))
	h = impl.HouseCalm(h, 12)
	if len(h.Past) != 1 || h.Past[0] != (impl.HousePast{Name: "p1", Stands: played.Stands, Result: played.Result}) {
		t.Errorf("%+v", h.Past)
	}
	g, _ := impl.RegOpen([][]impl.FlowLine{lines})
	g = passes(t, g, "begin 0 x 0 2|send 0|bring 0|try 0 x 1|take 1|fall 0|try 1 x 1|try 1 x 2")
	g = impl.RegCalm(g, 6)
	for site := range 2 {
		s, ok := impl.RegState(g, site, "x")
		comesTo(fmt.Sprint("site ", site), s, ok)
	}
}

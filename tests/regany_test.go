package tests

import (
	"fmt"
	"math/rand"
	"slices"
	"strings"
	"testing"

	"loop.example/dunlin/impl"
)

// siteFlows are over soon, or wait for signals, with times and without.
var siteFlows = []string{
	placesFlow,
	hurryFlow,
	tinyFlow,
	boxFlow,
	boxFlow,
	"workflow w n|get a go for 9|do b x n|get c go|get d go|return c",
	"workflow w n|do a x n undo y|do b x a|if b less 0|fail a|end|return b",
	"workflow w n m|both|do a x n|and|do b y m|end|sleep 1|let a mul a b|return a",
	"workflow w n|patch p|do a x n|end|get a go for 2|do b y|return b",
	"workflow w n|do a x n|if n less 3|let n add n 1|next n|end|return n",
	"workflow w n|while n less 9|do a x n undo y|let n add n 1|end|sleep 2|return n",
}

// anyRegions are two regions that have just opened.
func anyRegions(t *testing.T, r *rand.Rand) impl.RegWorld {
	t.Helper()
	var flows [][]impl.FlowLine
	for range 1 + r.Intn(4) {
		lines := flow(t, siteFlows[r.Intn(len(siteFlows))])
		if r.Intn(5) == 0 {
			lines, _ = livelyFlow(r)
		}
		flows = append(flows, lines)
	}
	w, ok := impl.RegOpen(flows)
	if !ok || !impl.RegSafe(w) || !impl.RegOne(w) {
		t.Fatalf("%v: %s", ok, regShape(w))
	}
	return w
}

func anyLeader(r *rand.Rand, w impl.RegWorld) int {
	return which(r, 2, func(site int) bool { return w.Sites[site].Leads && w.Sites[site].Up })
}

// anyRunOf is mostly the name of a run that is there, and of which something holds.
func anyRunOf(r *rand.Rand, w impl.RegWorld, site int, holds func(s impl.RunState) bool) string {
	if between(0, 1, site) {
		runs := w.Sites[site].Runs
		i := which(r, len(runs), func(i int) bool { return holds(regStateBy(w, site, runs[i].Name)) })
		if between(0, len(runs)-1, i) {
			return runs[i].Name
		}
	}
	return []string{"a", "b", "c", "d", "e", "", "X"}[r.Intn(7)]
}

// anyRegName is mostly one of so few that a site has room for them all.
func anyRegName(r *rand.Rand) string {
	return []string{"a", "b", "c", "d", "e", "f"}[min(r.Intn(64)/14, 4+r.Intn(2))]
}

func anyRegBegin(r *rand.Rand, w impl.RegWorld) impl.RegEvent {
	e := regBegin(anyLeader(r, w), anyRegName(r), r.Intn(len(w.Flows)))
	for range w.Flows[e.Id][0].Args {
		e.Nums = append(e.Nums, r.Intn(7)-1)
	}
	switch r.Intn(30) {
	case 0:
		e.Nums = append(e.Nums, 1)
	case 1:
		e.Id = len(w.Flows)
	case 2:
		e.Run = ""
	}
	return e
}

func anyRegSignal(r *rand.Rand, w impl.RegWorld) impl.RegEvent {
	site := anyLeader(r, w)
	run := anyRunOf(r, w, site, func(s impl.RunState) bool { return s.Stands == impl.RunLive })
	e := regSignal(site, run, len(w.Answered)+1, []string{"go", "go", "go", "go", "no", "Go"}[min(5, r.Intn(41)/8)], r.Intn(9)-2)
	switch r.Intn(24) {
	case 0:
		e.Id = r.Intn(60) - 1
	case 1:
		e.Id = append(w.Answered, 1)[0]
	}
	if r.Intn(40) == 0 {
		e.Nums = append(e.Nums, 1)
	}
	return e
}

// anyRegAnswer answers mostly what a run asks for where a site leads.
func anyRegAnswer(r *rand.Rand, w impl.RegWorld) impl.RegEvent {
	site := anyLeader(r, w)
	run := anyRunOf(r, w, site, func(s impl.RunState) bool { return len(s.Asks) > 0 })
	if between(0, 1, site) && regRunBy(&w.Sites[site], run) != nil && r.Intn(15) > 0 {
		if asks := regStateBy(w, site, run).Asks; len(asks) > 0 {
			a := asks[r.Intn(len(asks))]
			if (a.Name == "") == (r.Intn(20) > 0) {
				return regFire(site, run, a.Id)
			}
			return regTry(site, run, a.Id)
		}
	}
	return []impl.RegEvent{regTry(site, run, r.Intn(5)), regFire(site, run, r.Intn(5))}[r.Intn(2)]
}

// anyRegMoves are one, or some that belong together.
func anyRegMoves(r *rand.Rand, w impl.RegWorld) []impl.RegEvent {
	one := func(e impl.RegEvent) []impl.RegEvent { return []impl.RegEvent{e} }
	up := func(site int) bool { return w.Sites[site].Up }
	word := place(r, len(w.Radio))
	if len(w.Radio) == 6 && r.Intn(2) > 0 {
		return one([]impl.RegEvent{regBring(r.Intn(6)), regLose(r.Intn(6))}[r.Intn(2)])
	}
	switch n := r.Intn(100); {
	case n < 10:
		return one(anyRegBegin(r, w))
	case n < 26:
		return one(anyRegSignal(r, w))
	case n < 42:
		return one(anyRegAnswer(r, w))
	case n < 48:
		return one(regTake(which(r, 2, func(site int) bool { return up(site) && !w.Sites[site].Leads })))
	case n < 60:
		return one(regSend(which(r, 2, up)))
	case n < 74:
		return one(regBring(word))
	case n < 82:
		return one(regKeep(word))
	case n < 85:
		return one(regLose(word))
	case n < 87:
		return one(regFall(which(r, 2, up)))
	case n < 92:
		return one(regRise(which(r, 2, func(site int) bool { return !up(site) })))
	case n < 98:
		// One tells the other one all, at once, mostly who leads.
		site := which(r, 2, func(site int) bool { return up(site) && (w.Sites[site].Leads || r.Intn(3) == 0) })
		return []impl.RegEvent{regSend(site), regBring(len(w.Radio))}
	}
	e := impl.RegEvent{Kind: r.Intn(13) - 1, Site: r.Intn(4) - 1, Run: []string{"a", "b", "X", ""}[r.Intn(4)], Id: r.Intn(8) - 1, Name: []string{"", "go", "Go"}[r.Intn(3)], Keep: r.Intn(2) == 0}
	for range r.Intn(3) {
		e.Nums = append(e.Nums, r.Intn(30000)-15000)
	}
	return one(e)
}

// regDiary keeps beside two regions all that was answered ever, what was done ever, who led by which term, and which runs began where.
type regDiary struct {
	answered []int
	said     map[int]impl.RegEvent
	done     map[string]impl.RegEffect
	tries    int
	ledBy    map[int]int
	began    map[string][]impl.RegEvent
}

func newRegDiary() *regDiary {
	return &regDiary{said: map[int]impl.RegEvent{}, done: map[string]impl.RegEffect{}, ledBy: map[int]int{2: 0}, began: map[string][]impl.RegEvent{}}
}

// notes takes down what happened without a code.
func (d *regDiary) notes(e impl.RegEvent) {
	switch e.Kind {
	case impl.RegSignals:
		d.answered = append(d.answered, e.Id)
		d.said[e.Id] = e
	case impl.RegTries:
		d.tries++
	case impl.RegBegins:
		d.began[e.Run] = append(d.began[e.Run], e)
	}
}

// asks asks that nothing was forgotten, or counts twice, that each thing was done once, and by each term one site alone leads.
func (d *regDiary) asks(t *testing.T, what string, w impl.RegWorld) {
	t.Helper()
	fail := func(wrong string) { t.Fatalf("%s: %s\n%s\n%s", what, wrong, regBoardBy(w), regShape(w)) }
	if !slices.Equal(w.Answered, d.answered) {
		fail(fmt.Sprint("answered were ", d.answered))
	}
	kept := append(keptBy(w.Sites[0]), keptBy(w.Sites[1])...)
	for _, token := range d.answered {
		if !slices.Contains(kept, token) {
			fail(fmt.Sprint(token, " was forgotten"))
		}
	}
	tries := 0
	for _, e := range w.Effects {
		if before, was := d.done[e.Key]; was && (before.Answer != e.Answer || before.Tries > e.Tries) {
			fail(fmt.Sprint(before, " became ", e))
		}
		d.done[e.Key] = e
		tries += e.Tries
	}
	if len(w.Effects) != len(d.done) || tries != d.tries {
		fail(fmt.Sprint(d.tries, " times something was done: ", d.done))
	}
	for site, s := range w.Sites {
		if by, led := d.ledBy[s.Term]; s.Leads && led && by != site {
			fail(fmt.Sprint("two led by ", s.Term))
		}
		if s.Leads {
			d.ledBy[s.Term] = site
		}
		d.asksSite(fail, w, s)
	}
}

// keptBy are the tokens that are known at a site, or to be given back.
func keptBy(s impl.RegSite) []int {
	list := tokensBy(s)
	for _, b := range s.Back {
		list = append(list, b.Token)
	}
	return list
}

// asksSite asks that what a site knows was answered, as it was said, for that run, and once.
func (d *regDiary) asksSite(fail func(wrong string), w impl.RegWorld, s impl.RegSite) {
	if known := tokensBy(s); !rising(sorted(known), func(n int) int { return n }) {
		fail(fmt.Sprint("known twice: ", known))
	}
	for _, b := range mayGiveBy(s) {
		if e := d.said[b.Token]; b.Token > 0 && (e.Run != b.Run || e.Name != b.Name || e.Nums[0] != b.Num) {
			fail(fmt.Sprintf("%+v was said as %+v", b, e))
		}
		begun := slices.ContainsFunc(d.began[b.Run], func(e impl.RegEvent) bool { return e.Id == b.Flow && slices.Equal(e.Nums, b.Args) })
		if b.Token == 0 && !begun {
			fail(fmt.Sprintf("%+v never began", b))
		}
	}
	for _, x := range s.Runs {
		for i, e := range x.Hist {
			if e.Kind != impl.EntDone {
				continue
			}
			j := slices.IndexFunc(x.Hist[:i], func(a impl.HistEntry) bool { return a.Kind == impl.EntAsk && a.Id == e.Id })
			if done, is := d.done[x.Name+"/"+x.Hist[j].Key]; !is || done.Answer != e.Nums[0] {
				fail(fmt.Sprintf("%s says %+v, done was %+v", x.Name, e, done))
			}
		}
	}
}

func sorted(list []int) []int {
	list = slices.Clone(list)
	slices.Sort(list)
	return list
}

// occurs lets something happen, and asks for all beside it.
func (d *regDiary) occurs(t *testing.T, w impl.RegWorld, e impl.RegEvent) (impl.RegWorld, int) {
	t.Helper()
	x, code := occursAlike(t, w, e)
	if code == 0 {
		d.notes(e)
	}
	if !impl.RegSafe(x) {
		t.Fatalf("%+v of\n%s\nnot safe:\n%s", e, regShape(w), regShape(x))
	}
	d.asks(t, fmt.Sprintf("%+v", e), x)
	for site, s := range x.Sites {
		if s.Term < w.Sites[site].Term {
			t.Fatalf("%+v: a term became less: %s", e, regShape(x))
		}
	}
	return x, code
}

// rests lets calm rounds pass, one by one, and asks for all on the way.
func (d *regDiary) rests(t *testing.T, w impl.RegWorld, rounds int) impl.RegWorld {
	t.Helper()
	for range rounds {
		for _, step := range regCalmSteps(w) {
			d.tries += triesOf(step) - triesOf(w)
			d.asks(t, "a calm round", step)
			w = step
		}
	}
	return w
}

func triesOf(w impl.RegWorld) int {
	tries := 0
	for _, e := range w.Effects {
		tries += e.Tries
	}
	return tries
}

// noteReg notes what random regions must have met.
func noteReg(seen map[string]int, w impl.RegWorld, e impl.RegEvent, x impl.RegWorld, code int) {
	seen[fmt.Sprint("kind ", e.Kind, " code ", code)]++
	if w.Sites[0].Leads && w.Sites[1].Leads {
		seen["both lead"]++
	}
	for site := range 2 {
		ahead, behind := w.Sites[site], x.Sites[site]
		if len(behind.Late) > len(ahead.Late) {
			seen["more late"]++
		}
		if len(behind.Back) > len(ahead.Back) {
			seen["more back"]++
		}
		if e.Kind == impl.RegTakes && len(behind.Runs) > len(ahead.Runs) {
			seen["a run was taken back"]++
		}
		if e.Kind == impl.RegTakes && len(behind.Back) < len(ahead.Back) {
			seen["something was taken back"]++
		}
		if ahead.Leads && !behind.Leads {
			seen["one does not lead any more"]++
		}
	}
	if e.Kind == impl.RegBrings && code == 0 {
		noteWord(seen, w.Sites[w.Radio[e.Id].To], w.Radio[e.Id].Site, x.Sites[w.Radio[e.Id].To], e.Keep)
	}
}

func noteWord(seen map[string]int, ahead, heard, behind impl.RegSite, kept bool) {
	what := []string{"a word"}
	note := func(holds bool, text string) {
		if holds {
			what = append(what, text)
		}
	}
	switch {
	case !ahead.Up:
		what = append(what, "to one that is down")
	case !heard.Leads && ahead.Leads:
		note(len(heard.Back) > 0, "that gives back")
		note(!sameSite(ahead, behind), "and is taken")
		note(len(heard.Back) > 0 && sameSite(ahead, behind), "and is known")
	case heard.Leads && heard.Term == ahead.Term:
		what = append(what, "of one's own term")
		note(followsBy(ahead, heard), "followed")
		note(entriesBy(heard) < entriesBy(ahead), "that is older")
	case heard.Leads:
		note(heard.Term > ahead.Term, "of a greater term")
		note(heard.Term < ahead.Term, "of a smaller term")
		note(ahead.Leads, "to one that leads")
	}
	seen[strings.Join(what, " ")]++
	if kept {
		seen["a word that is kept"]++
	}
}

// livedRegions are two behind things that happened to them, and what was taken down beside.
func livedRegions(t *testing.T, r *rand.Rand, moves int) (impl.RegWorld, *regDiary) {
	t.Helper()
	w, d := anyRegions(t, r), newRegDiary()
	for range moves {
		for _, e := range anyRegMoves(r, w) {
			x, code := impl.RegDo(w, e)
			if code == 0 {
				d.notes(e)
			}
			w = x
		}
	}
	return w, d
}

// spoilRegions changes a thing or two of a world; often it is ok all the same.
func spoilRegions(r *rand.Rand, w impl.RegWorld) impl.RegWorld {
	w = copyReg(w)
	for range 1 + r.Intn(2) {
		num := []int{-1, 0, 1, 2, 3, 4, 5, 6, 9, 9998, 9999, 10000, -9999, -10000}[r.Intn(14)]
		switch r.Intn(12) {
		case 0:
			w.Effects = append(w.Effects, impl.RegEffect{Key: []string{"", "a/0", "b/1", "z/9"}[r.Intn(4)], Answer: num, Tries: num})
			if r.Intn(3) > 0 {
				slices.SortFunc(w.Effects, func(x, y impl.RegEffect) int { return strings.Compare(x.Key, y.Key) })
			}
		case 1:
			if len(w.Effects) > 0 {
				e := &w.Effects[r.Intn(len(w.Effects))]
				*[]*int{&e.Answer, &e.Tries}[r.Intn(2)] = num
			}
		case 2:
			w.Answered = append(w.Answered, num)
			if r.Intn(4) == 0 {
				w.Answered = append(manyTokens(38), w.Answered...)
			}
		case 3:
			w.Radio = append(w.Radio, impl.RegWord{To: max(-1, min(2, num)), Site: copySite(w.Sites[0])})
		case 4:
			if r.Intn(3) == 0 {
				w.Sites = append(w.Sites, w.Sites[0])
			}
		case 5:
			if len(w.Radio) > 0 {
				spoilSite(r, w, &w.Radio[r.Intn(len(w.Radio))].Site, num)
			}
		default:
			spoilSite(r, w, &w.Sites[r.Intn(2)], num)
		}
	}
	return w
}

func spoilSite(r *rand.Rand, w impl.RegWorld, s *impl.RegSite, num int) {
	name := []string{"a", "b", "c", "z", "abcdefgh", "", "A"}[r.Intn(7)]
	switch r.Intn(12) {
	case 0:
		s.Term = num
	case 1:
		s.Leads = !s.Leads
		if r.Intn(3) > 0 {
			s.Back = nil
		}
	case 2:
		s.Up = !s.Up
	case 3:
		s.Late = append(s.Late, num)
		if r.Intn(4) == 0 {
			s.Late = append(manyTokens(38), s.Late...)
		}
	case 4, 5:
		b := impl.RegBack{Run: name, Token: max(-1, min(num, 9)), Name: []string{"go", "no", ""}[r.Intn(3)], Num: num}
		if r.Intn(3) == 0 {
			flow := r.Intn(len(w.Flows))
			b = impl.RegBack{Run: name, Flow: flow, Args: make([]int, len(w.Flows[flow][0].Args))}
		}
		s.Back = append(s.Back, b)
		if r.Intn(3) == 0 {
			s.Leads, s.Back = false, slices.Repeat(s.Back[:1], 43+r.Intn(3))
		}
	case 6:
		flow := r.Intn(len(w.Flows))
		args := make([]int, len(w.Flows[flow][0].Args))
		s.Runs = append(s.Runs, impl.RegRun{Name: name, Flow: flow, Args: args, Hist: impl.HistOf(w.Flows[flow], args, nil, nil, 0)})
		if r.Intn(4) > 0 {
			slices.SortFunc(s.Runs, func(x, y impl.RegRun) int { return strings.Compare(x.Name, y.Name) })
		}
	case 7:
		slices.Reverse(s.Runs)
	default:
		if len(s.Runs) > 0 {
			spoilRegRun(r, w, &s.Runs[r.Intn(len(s.Runs))], num, name)
		}
	}
}

func spoilRegRun(r *rand.Rand, w impl.RegWorld, x *impl.RegRun, num int, name string) {
	switch r.Intn(9) {
	case 0:
		x.Name = name
	case 1:
		x.Flow = num
	case 2:
		x.Args = append(x.Args, num)
	case 3:
		if len(x.Args) > 0 {
			x.Args[0] = num
		}
	case 4:
		x.Hist = spoilHist(r, x.Hist)
	case 5:
		x.Tokens = append(x.Tokens, num)
	case 6, 7:
		// One more signal, and its token.
		if list, code := impl.HistMore(w.Flows[max(0, min(x.Flow, len(w.Flows)-1))], x.Hist, signal("go", 1)); code == 0 {
			x.Hist, x.Tokens = list, append(x.Tokens, num)
		}
	case 8:
		if len(x.Tokens) > 0 {
			x.Tokens[0] = num
		}
	}
}

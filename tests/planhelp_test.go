package tests

import (
	"fmt"
	"math"
	"math/rand"
	"slices"
	"strings"
	"testing"

	"loop.example/dunlin/impl"
)

var policies = []int{impl.PlanSkip, impl.PlanWaitOne, impl.PlanWaitAll, impl.PlanBoth, impl.PlanInstead}

// newPlan is one that begins.
func newPlan(t *testing.T, rules []impl.CalRule, policy, window, from int) impl.Plan {
	t.Helper()
	p, ok := impl.PlanNew(rules, policy, window, from)
	if !ok {
		t.Fatalf("%s, %d, %d, %d: no plan", calShape(rules), policy, window, from)
	}
	return p
}

// planShape is the same for a list that is empty and for one that is nil.
func planShape(p impl.Plan) string {
	return fmt.Sprintf("%s; policy %d window %d last %d goes %v waits %v told %v", calShape(p.Rules), p.Policy, p.Window, p.Last, p.Goes, p.Waits, p.Told)
}

func copyPlan(p impl.Plan) impl.Plan {
	p.Rules = copyCal(p.Rules)
	p.Goes, p.Waits, p.Told = slices.Clone(p.Goes), slices.Clone(p.Waits), slices.Clone(p.Told)
	return p
}

func roomyPlan(p impl.Plan) impl.Plan {
	p.Rules = roomyCal(p.Rules)
	p.Goes, p.Waits, p.Told = roomy(p.Goes, 77), roomy(p.Waits, 78), roomy(p.Told, impl.PlanTold{Tick: 79, What: 79})
	return p
}

// wholePlan is a plan with all that lies behind the ends of its lists.
func wholePlan(p impl.Plan) string {
	whole := p
	whole.Rules = nil
	whole.Goes, whole.Waits, whole.Told = p.Goes[:cap(p.Goes)], p.Waits[:cap(p.Waits)], p.Told[:cap(p.Told)]
	return wholeCal(p.Rules) + planShape(whole)
}

func spansOfPlan(what string, p impl.Plan) []span {
	return slices.Concat(spansOfCal(what+".Rules", p.Rules), spanOf(what+".Goes", p.Goes), spanOf(what+".Waits", p.Waits), spanOf(what+".Told", p.Told))
}

var toldNames = []string{"", "began", "skipped", "missed", "stopped", "ended"}

// toldText is told in words, one behind the other.
func toldText(told []impl.PlanTold) string {
	var words []string
	for _, one := range told {
		words = append(words, fmt.Sprint(one.Tick, " ", toldNames[one.What]))
	}
	return strings.Join(words, ", ")
}

// mostBy is chapter 42's table.
func mostBy(policy int) (int, int) {
	switch policy {
	case 2:
		return 1, 1
	case 3:
		return 1, 8
	case 4:
		return 8, 0
	}
	return 1, 0
}

// dueBy is for rules that are ok.
func dueBy(rules []impl.CalRule, tick int) bool {
	return slices.ContainsFunc(rules, func(r impl.CalRule) bool {
		return tick >= r.From && tick <= r.To && tick%r.Every == r.At && !slices.Contains(r.But, tick)
	})
}

// planOkBy is chapter 42 once more.
func planOkBy(p impl.Plan) bool {
	if !calOkBy(p.Rules) || p.Policy < 1 || p.Policy > 5 || p.Window < 0 || p.Window > 1000 || p.Last < -1 || p.Last > 100000 {
		return false
	}
	goes, waits := mostBy(p.Policy)
	if len(p.Goes) > goes || len(p.Waits) > waits || len(p.Told) > 60 || len(p.Waits) > 0 && len(p.Goes) == 0 {
		return false
	}
	// Waits that are above all Goes, both ascending, are one list that ascends.
	all := slices.Concat(p.Goes, p.Waits)
	for i := 1; i < len(all); i++ {
		if all[i-1] >= all[i] {
			return false
		}
	}
	for _, told := range p.Told {
		if told.What < 1 || told.What > 5 {
			return false
		}
		all = append(all, told.Tick)
	}
	return !slices.ContainsFunc(all, func(tick int) bool { return tick > p.Last || !dueBy(p.Rules, tick) })
}

// planBy goes through all ticks, one by one.
type planBy struct {
	impl.Plan
	told []impl.PlanTold
}

func (p *planBy) tell(tick, what int) {
	p.told = append(p.told, impl.PlanTold{Tick: tick, What: what})
}

func (p *planBy) pass(now int) {
	if now > 100000 || now <= p.Last {
		return
	}
	was := p.Last
	p.Last = now
	for tick := was + 1; tick <= now; tick++ {
		if dueBy(p.Rules, tick) {
			p.comes(tick)
		}
	}
}

func (p *planBy) comes(tick int) {
	mostGoes, mostWaits := mostBy(p.Policy)
	if tick+p.Window < p.Last {
		p.tell(tick, 3)
	} else if p.Policy == 5 && len(p.Goes) > 0 {
		p.tell(p.Goes[0], 4)
		p.Goes = []int{tick}
		p.tell(tick, 1)
	} else if len(p.Goes) < mostGoes && len(p.Waits) == 0 {
		p.Goes = append(p.Goes, tick)
		p.tell(tick, 1)
	} else if len(p.Waits) < mostWaits {
		p.Waits = append(p.Waits, tick)
	} else {
		p.tell(tick, 2)
	}
}

func (p *planBy) ends(tick int) {
	if !slices.Contains(p.Goes, tick) {
		return
	}
	p.Goes = slices.DeleteFunc(p.Goes, func(n int) bool { return n == tick })
	p.tell(tick, 5)
	for len(p.Waits) > 0 && len(p.Goes) == 0 {
		first := p.Waits[0]
		p.Waits = p.Waits[1:]
		if first+p.Window < p.Last {
			p.tell(first, 3)
			continue
		}
		p.Goes = []int{first}
		p.tell(first, 1)
	}
}

// planLook is PlanTick or, with ends, PlanEnds.
type planLook struct {
	ends      bool
	tick, now int
}

func (l planLook) do(p impl.Plan) (impl.Plan, []impl.PlanTold) {
	if l.ends {
		return impl.PlanEnds(p, l.tick, l.now)
	}
	return impl.PlanTick(p, l.now)
}

func (l planLook) by(p impl.Plan) (impl.Plan, []impl.PlanTold) {
	if !planOkBy(p) {
		return impl.Plan{}, nil
	}
	by := &planBy{Plan: copyPlan(p)}
	by.pass(l.now)
	if l.ends {
		by.ends(l.tick)
	}
	by.Told = append(by.Told, by.told...)
	by.Told = by.Told[max(0, len(by.Told)-60):]
	return by.Plan, by.told
}

func planBoardBy(p impl.Plan) string {
	if !planOkBy(p) {
		return ""
	}
	next := -1
	for tick := 100000; tick > p.Last; tick-- {
		if dueBy(p.Rules, tick) {
			next = tick
		}
	}
	text := fmt.Sprintf("last %d, next %d\ngoes", p.Last, next)
	for _, tick := range p.Goes {
		text += fmt.Sprint(" ", tick)
	}
	text += "\nwaits"
	for _, tick := range p.Waits {
		text += fmt.Sprint(" ", tick)
	}
	text += "\n"
	for _, told := range p.Told {
		text += fmt.Sprint(told.Tick, " ", toldNames[told.What], "\n")
	}
	return text
}

// lookedAt is a plan behind a look, held against the second reckoning: whether it is ok or not, nothing of it is changed or shared.
func lookedAt(t *testing.T, p impl.Plan, look planLook) (impl.Plan, []impl.PlanTold) {
	t.Helper()
	given := roomyPlan(p)
	kept := wholePlan(given)
	got, told := look.do(given)
	want, by := look.by(p)
	if planShape(got) != planShape(want) || toldText(told) != toldText(by) {
		t.Fatalf("%s, %+v:\n%s, told %s, asked for\n%s, told %s", planShape(p), look, planShape(got), toldText(told), planShape(want), toldText(by))
	}
	if wholePlan(given) != kept {
		t.Fatalf("%s was changed to %s", kept, wholePlan(given))
	}
	lieApart(t, spansOfPlan("the plan", given), spansOfPlan("the plan behind it", got), spanOf("what is told", told))
	if planOkBy(p) {
		inTime(t, got, told)
	}
	if ok := impl.PlanOk(got); ok != planOkBy(p) {
		t.Fatalf("%s, %+v: the plan behind it is ok: %v", planShape(p), look, ok)
	}
	return got, told
}

// ticks looks at a plan, and asks for what is told.
func ticks(t *testing.T, p impl.Plan, now int, want string) impl.Plan {
	t.Helper()
	return tells(t, p, planLook{now: now}, want)
}

func ends(t *testing.T, p impl.Plan, tick, now int, want string) impl.Plan {
	t.Helper()
	return tells(t, p, planLook{ends: true, tick: tick, now: now}, want)
}

func tells(t *testing.T, p impl.Plan, look planLook, want string) impl.Plan {
	t.Helper()
	p, told := lookedAt(t, p, look)
	if toldText(told) != want {
		t.Errorf("%+v tells %q, asked for %q", look, toldText(told), want)
	}
	return p
}

// stands asks for what goes on and what waits.
func stands(t *testing.T, p impl.Plan, goes, waits string) {
	t.Helper()
	if got := strings.Trim(fmt.Sprint(p.Goes), "[]"); got != goes {
		t.Errorf("%s go on, asked for %s", got, goes)
	}
	if got := strings.Trim(fmt.Sprint(p.Waits), "[]"); got != waits {
		t.Errorf("%s wait, asked for %s", got, waits)
	}
}

// inTime asks of what was told by one call: what began is not too late, and what was missed is.
func inTime(t *testing.T, p impl.Plan, told []impl.PlanTold) {
	t.Helper()
	for _, one := range told {
		if late := p.Last-one.Tick > p.Window; one.What == impl.TimeBegan && late || one.What == impl.TimeMissed && !late {
			t.Fatalf("%s: at %d, with a window of %d", toldText([]impl.PlanTold{one}), p.Last, p.Window)
		}
	}
}

// eachTimeOnce asks a plan, from its beginning at a tick on, with all that was told ever.
func eachTimeOnce(t *testing.T, p impl.Plan, from int, told []impl.PlanTold) {
	t.Helper()
	what := planShape(p) + " from " + fmt.Sprint(from) + ", told " + toldText(told)
	of := map[int][]int{}
	for _, one := range told {
		of[one.Tick] = append(of[one.Tick], one.What)
	}
	for tick := from + 1; tick <= p.Last; tick++ {
		if !dueBy(p.Rules, tick) {
			continue
		}
		all := fmt.Sprint(of[tick], slices.Contains(p.Goes, tick), slices.Contains(p.Waits, tick))
		switch all {
		case "[1] true false", "[1 4] false false", "[1 5] false false", "[2] false false", "[3] false false", "[] false true":
		default:
			t.Fatalf("%s: %d is told %s", what, tick, all)
		}
		delete(of, tick)
	}
	if len(of) > 0 {
		t.Fatalf("%s: there are no such times: %v", what, of)
	}
	for _, tick := range slices.Concat(p.Goes, p.Waits) {
		if tick <= from || tick > p.Last || !dueBy(p.Rules, tick) {
			t.Fatalf("%s: %d is none of its times", what, tick)
		}
	}
	if goes, waits := mostBy(p.Policy); len(p.Goes) > goes || len(p.Waits) > waits {
		t.Fatalf("%s: too many", what)
	}
	if last := told[max(0, len(told)-60):]; !slices.Equal(p.Told, last) {
		t.Fatalf("%s: it keeps %s", what, toldText(p.Told))
	}
}

// noPlan asks for what each function answers to a plan that is not ok.
func noPlan(t *testing.T, what string, p impl.Plan) {
	t.Helper()
	if impl.PlanOk(p) || impl.PlanBoard(p) != "" {
		t.Errorf("%s: %s is ok, or has a board: %q", what, planShape(p), impl.PlanBoard(p))
	}
	for _, now := range []int{-1, p.Last, p.Last + 1, 100, 100000, math.MinInt, math.MaxInt} {
		for _, tick := range append([]int{-1, 0, 17, 22}, p.Goes...) {
			for _, look := range []planLook{{now: now}, {ends: true, tick: tick, now: now}} {
				given := roomyPlan(p)
				kept := wholePlan(given)
				if got, told := look.do(given); planShape(got) != planShape(impl.Plan{}) || len(told) > 0 {
					t.Errorf("%s: %s, %+v: %s, told %s", what, planShape(p), look, planShape(got), toldText(told))
				}
				if wholePlan(given) != kept {
					t.Errorf("%s was changed to %s", kept, wholePlan(given))
				}
			}
		}
	}
}

// anyNewPlan has times that are close, most of the time.
func anyNewPlan(t *testing.T, r *rand.Rand) impl.Plan {
	t.Helper()
	rules := anyCal(r)
	if r.Intn(5) > 0 {
		rules = nil
		for range 1 + r.Intn(3) {
			every, from := 1+r.Intn(9), r.Intn(40)
			one := rule(every, r.Intn(every), from, from+r.Intn(200))
			for n := from + r.Intn(10); len(one.But) < 8 && r.Intn(3) > 0; n += 1 + r.Intn(9) {
				one.But = append(one.But, n)
			}
			rules = append(rules, one)
		}
	}
	window := []int{0, 1, r.Intn(10), r.Intn(40), r.Intn(300), 1000}[r.Intn(6)]
	from := []int{-1, -1, 0, r.Intn(60), rules[0].From - 1}[r.Intn(5)]
	return newPlan(t, rules, policies[r.Intn(5)], window, from)
}

// anyLook is at a tick soon behind, far behind, or at one at which nothing can happen; what ends often goes on.
func anyLook(r *rand.Rand, p impl.Plan) planLook {
	now := p.Last + []int{0, 1, 1, 2, r.Intn(8), r.Intn(30), r.Intn(p.Window + 3), p.Window, p.Window + 1, -1, -r.Intn(50)}[r.Intn(11)]
	if r.Intn(40) == 0 {
		now = []int{100000, 99999, 100001, -1, math.MinInt, math.MaxInt, p.Last + r.Intn(2000)}[r.Intn(7)]
	}
	look := planLook{ends: r.Intn(2) == 0, tick: now - r.Intn(10), now: now}
	if len(p.Goes) > 0 && r.Intn(3) > 0 {
		look.tick = p.Goes[r.Intn(len(p.Goes))]
	} else if len(p.Waits) > 0 && r.Intn(3) == 0 {
		look.tick = p.Waits[r.Intn(len(p.Waits))]
	} else if len(p.Told) > 0 && r.Intn(3) == 0 {
		look.tick = p.Told[r.Intn(len(p.Told))].Tick
	}
	return look
}

// anyPlan is ok, and need not have come about by looks.
func anyPlan(t *testing.T, r *rand.Rand) impl.Plan {
	t.Helper()
	p := anyNewPlan(t, r)
	dues := duesBy(p.Rules)
	p.Last = -1
	if len(dues) > 0 {
		p.Last = min(100000, dues[r.Intn(len(dues))]+r.Intn(4))
	}
	dues = dues[:placeBy(dues, p.Last)]
	goes, waits := mostBy(p.Policy)
	count := min(r.Intn(goes+waits+1), len(dues))
	for range count {
		p.Goes = append(p.Goes, dues[max(0, len(dues)-1-r.Intn(20))])
	}
	slices.Sort(p.Goes)
	p.Goes = slices.Compact(p.Goes)
	if len(p.Goes) > goes {
		p.Goes, p.Waits = p.Goes[:goes], p.Goes[goes:]
	}
	for range r.Intn(61) {
		if len(dues) > 0 {
			p.Told = append(p.Told, impl.PlanTold{Tick: dues[r.Intn(len(dues))], What: 1 + r.Intn(5)})
		}
	}
	return copyPlan(p)
}

// spoilPlan changes a thing of a plan; often it is ok all the same.
func spoilPlan(r *rand.Rand, p impl.Plan) impl.Plan {
	p = copyPlan(p)
	num := []int{-2, -1, 0, 1, 2, 3, 4, 5, 6, 60, 1000, 1001, 100000, 100001, math.MinInt, math.MaxInt, p.Last, p.Last + 1, p.Last - 1}[r.Intn(19)]
	times := []*[]int{&p.Goes, &p.Waits}[r.Intn(2)]
	switch r.Intn(10) {
	case 0:
		p.Rules = spoilCal(r, p.Rules)
	case 1:
		p.Policy = num
	case 2:
		p.Window = num
	case 3:
		p.Last = num
	case 4:
		*times = append(*times, num)
	case 5:
		*times = append(slices.Clone(*times), *times...)
	case 6:
		if n := len(*times); n > 0 {
			(*times)[r.Intn(n)] += r.Intn(3) - 1
		}
	case 7:
		p.Goes, p.Waits = p.Waits, p.Goes
	case 8:
		p.Told = append(p.Told, impl.PlanTold{Tick: num, What: 1 + r.Intn(5)})
	case 9:
		if n := len(p.Told); n > 0 {
			p.Told[r.Intn(n)].What = num
		}
	}
	return copyPlan(p)
}

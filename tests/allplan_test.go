package tests

import (
	"fmt"
	"math"
	"math/rand"
	"slices"
	"testing"

	"loop.example/dunlin/impl"
)

// missedOf are the times that one look at a new plan tells missed.
func missedOf(t *testing.T, rules []impl.CalRule, policy, window, from, now int) []int {
	t.Helper()
	given := roomyPlan(newPlan(t, rules, policy, window, from))
	kept := wholePlan(given)
	p, told := impl.PlanTick(given, now)
	if wholePlan(given) != kept || !impl.PlanOk(p) {
		t.Fatalf("%s is now %s, and came to %s", kept, wholePlan(given), planShape(p))
	}
	var missed []int
	for _, one := range told {
		if one.What == impl.TimeMissed {
			missed = append(missed, one.Tick)
		}
	}
	return missed
}

// Promise 66: a wider window never misses more; what it misses a narrower one misses, too.
func TestWiderWindowsMissNoMore(t *testing.T) {
	t.Parallel()
	r := rand.New(rand.NewSource(131))
	seen := map[string]int{}
	for range 1200 {
		p := anyNewPlan(t, r)
		now := p.Last + 1 + r.Intn(300)
		if r.Intn(3) == 0 {
			now = []int{p.Last + r.Intn(2000), 100000, p.Last, -1, 100001, math.MaxInt}[r.Intn(6)]
		}
		window := []int{0, r.Intn(20), r.Intn(20), r.Intn(100), r.Intn(1001), 999}[r.Intn(6)]
		wider := min(1000, window+[]int{0, 1, 2, r.Intn(20), r.Intn(100), 1000}[r.Intn(6)])
		narrow, wide := missedOf(t, p.Rules, p.Policy, window, p.Last, now), missedOf(t, p.Rules, p.Policy, wider, p.Last, now)
		if len(wide) > len(narrow) || !slices.Equal(wide, narrow[:len(wide)]) {
			t.Fatalf("%s, looked at at %d: a window of %d misses %v, one of %d %v", planShape(p), now, window, narrow, wider, wide)
		}
		// All that can be begun, skipped or kept waiting by then is not missed, and no other one is.
		for _, c := range []struct {
			window int
			missed []int
		}{{window, narrow}, {wider, wide}} {
			want := 0
			if between(p.Last, impl.CalMaxTick, now) {
				want = impl.CalCount(p.Rules, p.Last, max(p.Last, now-c.window-1))
			}
			if len(c.missed) != want {
				t.Fatalf("%s, looked at at %d, misses %v by a window of %d, asked for %d", planShape(p), now, c.missed, c.window, want)
			}
		}
		seen[fmt.Sprint("policy ", p.Policy)]++
		switch {
		case len(wide) < len(narrow) && len(wide) > 0:
			seen["less"]++
		case len(wide) < len(narrow):
			seen["none by the wider one"]++
		case len(wide) > 0 && wider > window:
			seen["as many"]++
		case now > impl.CalMaxTick || now <= p.Last:
			seen["nothing at that tick"]++
		}
	}
	cameOften(t, seen, map[string]int{"less": 40, "none by the wider one": 40, "as many": 40, "nothing at that tick": 20, "policy 1": 100, "policy 5": 100})
}

func TestWindowsAtTheirEnds(t *testing.T) {
	rules := cal(rule(1, 0, 0, 2000))
	for _, policy := range policies {
		for _, c := range []struct{ window, now, missed int }{
			{0, 0, 0}, {0, 1, 1}, {0, 1000, 1000}, {0, 2001, 2001}, {1, 1, 0}, {1, 2, 1}, {999, 1000, 1}, {1000, 1000, 0}, {1000, 1001, 1}, {1000, 100000, 2001}, {1000, 100001, 0}, {0, -1, 0}, {0, math.MinInt, 0},
		} {
			if missed := missedOf(t, rules, policy, c.window, -1, c.now); len(missed) != c.missed {
				t.Errorf("policy %d, a window of %d, at %d: %d missed, asked for %d", policy, c.window, c.now, len(missed), c.missed)
			}
		}
	}
	// No plan has a window that is wider, or less than none, and nothing is told of one that is not ok.
	for _, window := range []int{-1, 1001, math.MinInt, math.MaxInt} {
		p, ok := impl.PlanNew(rules, impl.PlanSkip, window, -1)
		if ok || planShape(p) != planShape(impl.Plan{}) {
			t.Errorf("a window of %d: %s", window, planShape(p))
		}
		p = newPlan(t, rules, impl.PlanSkip, 0, -1)
		p.Window = window
		noPlan(t, "window", p)
	}
}

// Promise 67: two calendars put together are due when either of them is, if they are ok together.
func TestCalendarsPutTogether(t *testing.T) {
	t.Parallel()
	r := rand.New(rand.NewSource(132))
	seen := map[string]int{}
	for range 700 {
		a, b := anyCal(r), anyCal(r)
		if r.Intn(2) == 0 {
			a, b = a[:1+r.Intn(min(2, len(a)))], b[:1+r.Intn(min(2, len(b)))]
		}
		if r.Intn(8) == 0 {
			b = spoilCal(r, b)
		}
		if r.Intn(12) == 0 {
			a = nil
		}
		kept := calShape(a) + ", " + calShape(b)
		both := slices.Concat(copyCal(a), copyCal(b))
		turned := slices.Concat(copyCal(b), copyCal(a))
		ok := impl.CalOk(both)
		if ok != calOkBy(both) || ok && len(a) > 0 && !(impl.CalOk(a) && impl.CalOk(b)) {
			t.Fatalf("%s: together ok: %v", kept, ok)
		}
		ticks := append(nearTicks(both, slices.Concat(duesBy(a), duesBy(b)), 12), farTicks...)
		last := math.MinInt
		for _, tick := range ticks {
			either := impl.CalDue(a, tick) || impl.CalDue(b, tick)
			if due := impl.CalDue(both, tick); due != (ok && either) || impl.CalDue(turned, tick) != due {
				t.Fatalf("%s: together due at %d: %v", kept, tick, due)
			}
			if !ok {
				continue
			}
			if next := impl.CalNext(both, tick); next != sooner(impl.CalNext(a, tick), impl.CalNext(b, tick)) {
				t.Fatalf("%s: behind %d comes %d together", kept, tick, next)
			}
			if count, one, other := impl.CalCount(both, last, tick), impl.CalCount(a, last, tick), impl.CalCount(b, last, tick); count < max(one, other) || count > one+other {
				t.Fatalf("%s: above %d, up to %d: %d, %d and %d", kept, last, tick, count, one, other)
			}
			last = tick
		}
		switch {
		case ok && len(a) == 0:
			seen["one of none"]++
		case ok:
			seen["ok together"]++
		case impl.CalOk(a) && impl.CalOk(b):
			seen["ok each by itself"]++
		default:
			seen["not ok"]++
		}
		if calShape(a)+", "+calShape(b) != kept {
			t.Fatalf("%s became %s, %s", kept, calShape(a), calShape(b))
		}
	}
	cameOften(t, seen, map[string]int{"one of none": 20, "ok together": 250, "ok each by itself": 50, "not ok": 20})
}

// sooner is the next of two calendars; -1 is none.
func sooner(a, b int) int {
	if a == -1 || b != -1 && b < a {
		return b
	}
	return a
}

// What one of two leaves out is due by the other one; rules that are ok each by itself may be too many together.
func TestCalendarsPutTogetherAtTheLimits(t *testing.T) {
	one, other := rule(5, 2, 0, 40, 12, 17), rule(5, 2, 10, 20, 17)
	for n := range 5 {
		for m := range 5 {
			a, b := slices.Repeat(cal(one), n), slices.Repeat(cal(other), m)
			both := slices.Concat(a, b)
			for _, tick := range []int{2, 7, 12, 17, 22, 42, 3} {
				want := n+m <= 4 && (n > 0 && dueBy(cal(one), tick) || m > 0 && dueBy(cal(other), tick))
				if impl.CalDue(both, tick) != want {
					t.Errorf("%d and %d rules: due at %d: %v", n, m, tick, !want)
				}
			}
			if n+m > 4 || n+m == 0 {
				calNone(t, fmt.Sprint(n, " and ", m, " rules"), both)
			}
		}
	}
	if !impl.CalDue(cal(one, other), 12) || impl.CalDue(cal(one, other), 17) {
		t.Error("what both leave out, or one alone")
	}
	// One rule that is wrong makes all of them wrong.
	for _, wrong := range []impl.CalRule{{}, rule(0, 0, 0, 9), rule(1001, 0, 0, 9), rule(5, 5, 0, 9), rule(5, 0, 9, 8), rule(5, 0, 0, 100001), rule(5, 0, 0, 9, 3, 3), rule(5, 0, 0, 9, 0, 1, 2, 3, 4, 5, 6, 7, 8)} {
		calNone(t, "with one that is wrong", cal(one, wrong))
		calNone(t, "with one that is wrong ahead", cal(wrong, one))
	}
}

// endsInFigure says whether a name does.
func endsInFigure(name string) bool {
	return name[len(name)-1] >= '0' && name[len(name)-1] <= '9'
}

// personsStay asks that a look changes no run of a name that ends in no figure, begins none, and puts none away.
func personsStay(t *testing.T, h impl.House, seen map[string]int) impl.House {
	t.Helper()
	x, code := houseDeeds.goes(t, h, evLook())
	if code != 0 {
		t.Fatalf("code %d", code)
	}
	ofPersons := func(h impl.House) []impl.ServRun {
		return slices.DeleteFunc(slices.Clone(h.Serv.Runs), func(x impl.ServRun) bool { return endsInFigure(x.Name) })
	}
	if !slices.EqualFunc(ofPersons(h), ofPersons(x), sameRun) || !slices.Equal(h.Past, x.Past) {
		t.Fatalf("a look at\n%s\ncomes to\n%s", houseShape(h), houseShape(x))
	}
	seen["persons' runs"] += len(ofPersons(h))
	if len(x.Serv.Runs) > len(h.Serv.Runs) {
		seen["something began"]++
	}
	for i, run := range x.Serv.Runs {
		if i < len(h.Serv.Runs) && run.Name == h.Serv.Runs[i].Name && !sameRun(run, h.Serv.Runs[i]) {
			seen["something was cancelled"]++
		}
	}
	return x
}

// Promise 68: a look at the schedules never touches a run that a person began.
func TestLooksLeavePersonsRunsAlone(t *testing.T) {
	t.Parallel()
	r := rand.New(rand.NewSource(133))
	seen := map[string]int{}
	for range 60 {
		h := anyHouse(t, r)
		for range 45 {
			for _, e := range anyMoves(r, h) {
				if e.Kind == impl.HouseLooks {
					h = personsStay(t, h, seen)
					continue
				}
				h, _ = impl.HouseDo(h, e)
			}
		}
		// As it may be after much more, or by hands.
		for range 6 {
			x := spoilHouse(r, h)
			if !impl.HouseOk(x) {
				noLook(t, x)
				continue
			}
			x.Serv.Now = min(impl.ServMaxTick, x.Serv.Now+r.Intn(30))
			personsStay(t, x, seen)
			seen["spoilt"]++
		}
	}
	cameOften(t, seen, map[string]int{"persons' runs": 300, "something began": 60, "something was cancelled": 20, "spoilt": 100})
}

// noLook asks that of a house that is not ok nothing comes.
func noLook(t *testing.T, h impl.House) {
	t.Helper()
	if x, code := impl.HouseDo(h, evLook()); code != 1 || houseShape(x) != houseShape(impl.House{}) {
		t.Fatalf("code %d, %s", code, houseShape(x))
	}
}

// Runs of names that look like those of times, and end in no figure, and runs of names that end in one, of which some are times'.
func TestLooksAtRunsByTheirNames(t *testing.T) {
	h := jobs(t, impl.PlanInstead, 0)
	h = lives(t, h, "tick*2|look")
	h = changedHouse(t, h, func(h *impl.House) {
		x := h.Serv.Runs[0]
		h.Serv.Runs = nil
		for _, name := range []string{"p", "p2", "p2x", "pp", "x6"} {
			x.Name = name
			h.Serv.Runs = append(h.Serv.Runs, x)
		}
	})
	seen := map[string]int{}
	x := personsStay(t, lives(t, h, "tick*4"), seen)
	if got := runsOf(x); got != "p p2 p2x p6 pp x6" {
		t.Fatal(got)
	}
	for i, want := range []int{0, 1, 0, 0, 0, 0} {
		if inbox := x.Serv.Runs[i].Inbox; len(inbox) != want || want == 1 && inbox[0] != cancel() {
			t.Errorf("%s: %v", x.Serv.Runs[i].Name, inbox)
		}
	}
	if seen["something began"] != 1 || seen["something was cancelled"] != 1 || seen["persons' runs"] != 3 {
		t.Errorf("%v", seen)
	}
	// Without room what is owed waits; nobody's run makes room for it.
	full := personsStay(t, lives(t, x, "tick*4"), seen)
	if got := runsOf(full); got != "p p2 p2x p6 pp x6" || owesOf(full) != "begins p10" {
		t.Errorf("%s, owes %s", got, owesOf(full))
	}
	// Runs that a person cancelled, or that are over, are looked at likewise.
	over := changedHouse(t, full, func(h *impl.House) {
		x := &h.Serv.Runs[0]
		x.Hist = hist(t, "start 2|ask 1 0 work 2|broke 1 5|end 2 5")
		x.Closed = true
		h.Serv.Runs[2].Inbox = slices.Repeat(haps(cancel()), 30)
	})
	personsStay(t, over, seen)
	noHouse(t, "a plan of a name that is none", impl.House{Serv: full.Serv, Plans: []impl.HousePlan{{Name: "p2"}}})
}

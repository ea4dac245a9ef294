package tests

import (
	"fmt"
	"math"
	"slices"
	"strings"
	"testing"

	"loop.example/dunlin/impl"
)

var planRules = cal(rule(5, 2, 0, 40, 12), rule(20, 0, 10, 100))

// fives are times at 5, 10, 15 and so on.
func fives(t *testing.T, policy, window int) impl.Plan {
	t.Helper()
	return newPlan(t, cal(rule(5, 0, 5, 90)), policy, window, 0)
}

func planBoard(t *testing.T, p impl.Plan, want ...string) {
	t.Helper()
	given := roomyPlan(p)
	kept := wholePlan(given)
	if got := impl.PlanBoard(given); got != strings.Join(want, "\n")+"\n" || got != planBoardBy(p) {
		t.Errorf("%s: the board is %q", planShape(p), got)
	}
	if wholePlan(given) != kept {
		t.Errorf("%s was changed to %s", kept, wholePlan(given))
	}
}

func TestPlanAsShown(t *testing.T) {
	p := newPlan(t, planRules, impl.PlanWaitOne, 6, 0)
	p = ticks(t, p, 3, "2 began")
	p = ticks(t, p, 18, "7 missed")
	stands(t, p, "2", "17")
	p = ticks(t, p, 20, "20 skipped")
	p = ends(t, p, 2, 21, "2 ended, 17 began")
	stands(t, p, "17", "")
	p = ends(t, p, 17, 36, "22 missed, 27 missed, 17 ended, 32 began")
	planBoard(t, p, "last 36, next 37", "goes 32", "waits", "2 began", "7 missed", "20 skipped", "2 ended", "17 began", "22 missed", "27 missed", "17 ended", "32 began")
}

func TestBoardsOfPlans(t *testing.T) {
	p := newPlan(t, planRules, impl.PlanWaitAll, 1000, -1)
	planBoard(t, p, "last -1, next 2", "goes", "waits")
	p = ticks(t, p, 1, "")
	planBoard(t, p, "last 1, next 2", "goes", "waits")
	p = ticks(t, p, 2, "2 began")
	planBoard(t, p, "last 2, next 7", "goes 2", "waits", "2 began")
	p = ticks(t, p, 22, "")
	planBoard(t, p, "last 22, next 27", "goes 2", "waits 7 17 20 22", "2 began")
	p = ticks(t, p, 100, "60 skipped, 80 skipped, 100 skipped")
	planBoard(t, p, "last 100, next -1", "goes 2", "waits 7 17 20 22 27 32 37 40", "2 began", "60 skipped", "80 skipped", "100 skipped")
	planBoard(t, newPlan(t, cal(rule(1, 0, 0, 100000)), impl.PlanSkip, 0, 100000), "last 100000, next -1", "goes", "waits")
	planBoard(t, newPlan(t, cal(rule(1, 0, 0, 100000)), impl.PlanSkip, 0, 99999), "last 99999, next 100000", "goes", "waits")
	planBoard(t, newPlan(t, cal(rule(1, 0, 5, 5, 5)), impl.PlanBoth, 0, 0), "last 0, next -1", "goes", "waits")
	// Of all that is kept, in order.
	p = impl.Plan{Rules: planRules, Policy: impl.PlanBoth, Window: 3, Last: 50, Goes: []int{2, 7, 40}, Told: []impl.PlanTold{{Tick: 40, What: 5}, {Tick: 2, What: 4}, {Tick: 2, What: 3}, {Tick: 7, What: 2}, {Tick: 2, What: 4}, {Tick: 7, What: 1}}}
	planBoard(t, p, "last 50, next 60", "goes 2 7 40", "waits", "40 ended", "2 stopped", "2 missed", "7 skipped", "2 stopped", "7 began")
	ones := newPlan(t, cal(rule(1, 0, 0, 100)), impl.PlanInstead, 60, 0)
	for now := range 60 {
		ones, _ = lookedAt(t, ones, planLook{now: now + 1})
	}
	if n := strings.Count(impl.PlanBoard(ones), "\n"); n != 63 {
		t.Errorf("%d rows", n)
	}
}

func TestPoliciesOverManyTicks(t *testing.T) {
	for _, c := range []struct {
		policy                    int
		goes, waits, told, behind string
	}{
		{impl.PlanSkip, "5", "", "5 began, 10 skipped, 15 skipped, 20 skipped", "5 ended"},
		{impl.PlanWaitOne, "5", "10", "5 began, 15 skipped, 20 skipped", "5 ended, 10 began"},
		{impl.PlanWaitAll, "5", "10 15 20", "5 began", "5 ended, 10 began"},
		{impl.PlanBoth, "5 10 15 20", "", "5 began, 10 began, 15 began, 20 began", "5 ended"},
		{impl.PlanInstead, "20", "", "5 began, 5 stopped, 10 began, 10 stopped, 15 began, 15 stopped, 20 began", ""},
	} {
		p := ticks(t, fives(t, c.policy, 20), 22, c.told)
		stands(t, p, c.goes, c.waits)
		ends(t, p, 5, 22, c.behind)
		// Tick by tick nothing else happens.
		slow := fives(t, c.policy, 20)
		for now := range 22 {
			slow, _ = lookedAt(t, slow, planLook{now: now + 1})
		}
		if planShape(slow) != planShape(p) {
			t.Errorf("%s, tick by tick %s", planShape(p), planShape(slow))
		}
	}
}

func TestPoliciesWithEnds(t *testing.T) {
	p := ticks(t, fives(t, impl.PlanSkip, 9), 5, "5 began")
	p = ends(t, p, 5, 10, "10 skipped, 5 ended")
	p = ends(t, p, 5, 10, "")
	p = ticks(t, p, 15, "15 began")
	p = ends(t, p, 10, 16, "")
	stands(t, p, "15", "")

	p = ticks(t, fives(t, impl.PlanWaitOne, 90), 20, "5 began, 15 skipped, 20 skipped")
	p = ends(t, p, 5, 25, "25 skipped, 5 ended, 10 began")
	p = ticks(t, p, 30, "")
	p = ends(t, p, 10, 31, "10 ended, 30 began")
	p = ends(t, p, 30, 32, "30 ended")
	p = ticks(t, p, 35, "35 began")
	stands(t, p, "35", "")

	p = ticks(t, fives(t, impl.PlanWaitAll, 90), 20, "5 began")
	p = ends(t, p, 5, 20, "5 ended, 10 began")
	p = ends(t, p, 10, 25, "10 ended, 15 began")
	stands(t, p, "15", "20 25")
	// What waits goes first, when a time comes and nothing more goes on than may.
	p = ends(t, p, 15, 30, "15 ended, 20 began")
	stands(t, p, "20", "25 30")

	// In another order than they began.
	p = ticks(t, fives(t, impl.PlanBoth, 90), 30, "5 began, 10 began, 15 began, 20 began, 25 began, 30 began")
	p = ends(t, p, 15, 30, "15 ended")
	p = ends(t, p, 30, 30, "30 ended")
	p = ends(t, p, 5, 31, "5 ended")
	stands(t, p, "10 20 25", "")
	p = ends(t, p, 25, 35, "35 began, 25 ended")
	p = ends(t, p, 25, 35, "")
	p = ends(t, p, 10, 45, "40 began, 45 began, 10 ended")
	stands(t, p, "20 35 40 45", "")

	p = ticks(t, fives(t, impl.PlanInstead, 90), 10, "5 began, 5 stopped, 10 began")
	p = ends(t, p, 5, 12, "")
	p = ends(t, p, 10, 13, "10 ended")
	p = ticks(t, p, 15, "15 began")
	stands(t, p, "15", "")
	// Stopped in the same call, so that it cannot end.
	p = ends(t, p, 15, 20, "15 stopped, 20 began")
	stands(t, p, "20", "")
	// Begun in the same call, it can.
	p = ends(t, p, 25, 25, "20 stopped, 25 began, 25 ended")
	stands(t, p, "", "")
}

func TestEndsOfTimesThatDoNotGoOn(t *testing.T) {
	p := ticks(t, fives(t, impl.PlanWaitAll, 8), 20, "5 missed, 10 missed, 15 began")
	for _, tick := range append([]int{5, 10, 20, 25, 30, 14, 16, 0, 90, 95, 100000}, farTicks...) {
		stands(t, ends(t, p, tick, 20, ""), "15", "20")
		stands(t, ends(t, p, tick, 25, ""), "15", "20 25")
	}
	for _, policy := range policies {
		// None goes on.
		bare := fives(t, policy, 8)
		for _, tick := range []int{-1, 0, 5, 10} {
			if got, told := lookedAt(t, bare, planLook{ends: true, tick: tick, now: 4}); len(told) > 0 || got.Last != 4 {
				t.Errorf("%s tells %s", planShape(got), toldText(told))
			}
		}
		ends(t, bare, 5, 5, "5 began, 5 ended")
	}
}

func TestWhatWaitsIsLate(t *testing.T) {
	p := ticks(t, fives(t, impl.PlanWaitAll, 8), 10, "5 began")
	p = ticks(t, p, 15, "")
	p = ticks(t, p, 20, "")
	// It is asked when it is taken out, not earlier.
	p = ticks(t, p, 40, "25 missed, 30 missed")
	stands(t, p, "5", "10 15 20 35 40")
	ends(t, p, 5, 40, "5 ended, 10 missed, 15 missed, 20 missed, 35 began")
	ends(t, p, 5, 43, "5 ended, 10 missed, 15 missed, 20 missed, 35 began")
	p = ends(t, p, 5, 44, "5 ended, 10 missed, 15 missed, 20 missed, 35 missed, 40 began")
	stands(t, p, "40", "")
	// All of them, so that none goes on, and the next one begins at once.
	p = ticks(t, fives(t, impl.PlanWaitAll, 8), 10, "5 began")
	p = ticks(t, p, 14, "")
	p = ends(t, p, 5, 19, "5 ended, 10 missed, 15 began")
	p = ticks(t, p, 20, "")
	p = ends(t, p, 15, 24, "15 ended, 20 began")
	stands(t, p, "20", "")
	p = newPlan(t, cal(rule(5, 0, 5, 10)), impl.PlanWaitOne, 8, 0)
	p = ticks(t, p, 10, "5 began")
	ends(t, p, 5, 18, "5 ended, 10 began")
	p = ends(t, p, 5, 19, "5 ended, 10 missed")
	stands(t, p, "", "")
	// A time of the same look waits behind one that is too late by then, and is too late itself.
	p = newPlan(t, cal(rule(1, 0, 1, 9)), impl.PlanWaitAll, 3, 0)
	p = ticks(t, p, 4, "1 began")
	stands(t, ticks(t, p, 9, "5 missed"), "1", "2 3 4 6 7 8 9")
	p = ends(t, p, 1, 9, "5 missed, 1 ended, 2 missed, 3 missed, 4 missed, 6 began")
	stands(t, p, "6", "7 8 9")
	p = ends(t, p, 6, 30, "6 ended, 7 missed, 8 missed, 9 missed")
	stands(t, p, "", "")
}

// The tick that is said at an end may be one at which nothing can happen: how late it is goes by Last.
func TestEndsAtAnotherTick(t *testing.T) {
	p := ticks(t, fives(t, impl.PlanWaitAll, 8), 10, "5 began")
	p = ticks(t, p, 19, "")
	stands(t, p, "5", "10 15")
	for _, now := range []int{19, 18, 10, 0, -1, -2, math.MinInt, 100001, 100002, math.MaxInt} {
		got := ends(t, p, 5, now, "5 ended, 10 missed, 15 began")
		if got.Last != 19 {
			t.Errorf("%d: last %d", now, got.Last)
		}
		stands(t, got, "15", "")
	}
	got := ends(t, p, 5, 100000, strings.Join([]string{"20 missed, 25 missed, 30 missed, 35 missed, 40 missed, 45 missed, 50 missed, 55 missed, 60 missed, 65 missed, 70 missed, 75 missed, 80 missed, 85 missed, 90 missed", "5 ended, 10 missed, 15 missed"}, ", "))
	stands(t, got, "", "")
	if got.Last != 100000 {
		t.Errorf("last %d", got.Last)
	}
}

func TestWindows(t *testing.T) {
	for _, window := range []int{0, 1, 4, 5, 6, 999, 1000} {
		for _, policy := range policies {
			p := newPlan(t, cal(rule(1, 0, 50, 50)), policy, window, -1)
			ticks(t, p, 49, "")
			ticks(t, p, 50, "50 began")
			p = ticks(t, p, 50+window, "50 began")
			stands(t, p, "50", "")
			p = newPlan(t, cal(rule(1, 0, 50, 50)), policy, window, 49)
			p = ticks(t, p, 51+window, "50 missed")
			stands(t, p, "", "")
		}
	}
	// Missed ones do not go on, so that the next one can.
	ticks(t, fives(t, impl.PlanSkip, 3), 17, "5 missed, 10 missed, 15 began")
	ticks(t, fives(t, impl.PlanSkip, 7), 17, "5 missed, 10 began, 15 skipped")
	ticks(t, fives(t, impl.PlanSkip, 6), 17, "5 missed, 10 missed, 15 began")
	ticks(t, fives(t, impl.PlanInstead, 7), 17, "5 missed, 10 began, 10 stopped, 15 began")
	ticks(t, fives(t, impl.PlanInstead, 1), 17, "5 missed, 10 missed, 15 missed")
	// What is missed stops nothing.
	p := ticks(t, fives(t, impl.PlanInstead, 1), 6, "5 began")
	p = ticks(t, p, 12, "10 missed")
	stands(t, p, "5", "")
	p = ticks(t, p, 20, "15 missed, 5 stopped, 20 began")
	stands(t, p, "20", "")
}

// With a window of 0 a time begins just at its tick, and what waits never does, but at the tick itself.
func TestWindowOfNothing(t *testing.T) {
	for _, policy := range policies {
		ticks(t, fives(t, policy, 0), 16, "5 missed, 10 missed, 15 missed")
		p := ticks(t, fives(t, policy, 0), 5, "5 began")
		ends(t, p, 5, 6, "5 ended")
	}
	p := ticks(t, fives(t, impl.PlanWaitAll, 0), 5, "5 began")
	p = ticks(t, p, 10, "")
	ends(t, p, 5, 10, "5 ended, 10 began")
	ends(t, p, 5, 11, "5 ended, 10 missed")
	p = ticks(t, p, 15, "")
	ends(t, p, 5, 15, "5 ended, 10 missed, 15 began")
	ticks(t, fives(t, impl.PlanInstead, 0), 15, "5 missed, 10 missed, 15 began")
	p = ticks(t, fives(t, impl.PlanInstead, 0), 10, "5 missed, 10 began")
	ticks(t, p, 15, "10 stopped, 15 began")
}

func TestAsManyAsMay(t *testing.T) {
	ones := cal(rule(1, 0, 1, 100))
	p := ticks(t, newPlan(t, ones, impl.PlanBoth, 100, 0), 8, "1 began, 2 began, 3 began, 4 began, 5 began, 6 began, 7 began, 8 began")
	p = ticks(t, p, 10, "9 skipped, 10 skipped")
	stands(t, p, "1 2 3 4 5 6 7 8", "")
	p = ends(t, p, 4, 11, "11 skipped, 4 ended")
	p = ticks(t, p, 13, "12 began, 13 skipped")
	stands(t, p, "1 2 3 5 6 7 8 12", "")

	p = ticks(t, newPlan(t, ones, impl.PlanWaitAll, 100, 0), 9, "1 began")
	stands(t, p, "1", "2 3 4 5 6 7 8 9")
	p = ticks(t, p, 11, "10 skipped, 11 skipped")
	p = ends(t, p, 1, 12, "12 skipped, 1 ended, 2 began")
	p = ticks(t, p, 14, "14 skipped")
	stands(t, p, "2", "3 4 5 6 7 8 9 13")

	p = ticks(t, newPlan(t, ones, impl.PlanWaitOne, 100, 0), 4, "1 began, 3 skipped, 4 skipped")
	stands(t, p, "1", "2")
}

func TestWhatIsToldIsKept(t *testing.T) {
	ones := cal(rule(1, 0, 1, 100000))
	for _, c := range []struct{ last, count int }{{59, 59}, {60, 60}, {61, 60}, {62, 60}, {99, 60}, {1000, 60}, {100000, 60}} {
		p, told := lookedAt(t, newPlan(t, ones, impl.PlanSkip, 0, 0), planLook{now: c.last})
		if len(told) != c.last || len(p.Told) != c.count {
			t.Fatalf("%d: %d are told, %d kept", c.last, len(told), len(p.Told))
		}
		if !slices.Equal(p.Told, told[c.last-c.count:]) || p.Told[c.count-1] != (impl.PlanTold{Tick: c.last, What: impl.TimeBegan}) || told[0].Tick != 1 {
			t.Errorf("%d: it keeps %s", c.last, toldText(p.Told))
		}
		// Behind those, some more.
		for _, more := range []int{1, 2, 59, 60, 61} {
			if c.last+more > 100000 {
				continue
			}
			q, next := lookedAt(t, p, planLook{now: c.last + more})
			all := slices.Concat(told, next)
			if len(next) != more || !slices.Equal(q.Told, all[max(0, len(all)-60):]) {
				t.Errorf("%d and then %d: it tells %d, and keeps %s", c.last, more, len(next), toldText(q.Told))
			}
		}
	}
	// What ends is told behind all else.
	p := ticks(t, newPlan(t, ones, impl.PlanSkip, 0, 0), 1, "1 began")
	p, told := lookedAt(t, p, planLook{ends: true, tick: 1, now: 200})
	if len(told) != 200 || toldText(told[198:]) != "200 skipped, 1 ended" || toldText(p.Told[58:]) != "200 skipped, 1 ended" || len(p.Told) != 60 || p.Told[0].Tick != 142 {
		t.Errorf("%d are told; it keeps %s", len(told), toldText(p.Told))
	}
	p, told = lookedAt(t, newPlan(t, ones, impl.PlanInstead, 1000, 0), planLook{now: 100000})
	if len(told) != 100000+1000 || len(p.Told) != 60 || toldText(p.Told[57:]) != "99999 began, 99999 stopped, 100000 began" {
		t.Errorf("%d are told; it keeps %s", len(told), toldText(p.Told))
	}
}

func TestLooksAtOtherTicks(t *testing.T) {
	for _, policy := range policies {
		p, _ := lookedAt(t, fives(t, policy, 20), planLook{now: 17})
		for _, now := range []int{17, 16, 5, 0, -1, -2, math.MinInt, 100001, 100002, math.MaxInt} {
			if got := ticks(t, p, now, ""); planShape(got) != planShape(p) {
				t.Errorf("%d: %s became %s", now, planShape(p), planShape(got))
			}
		}
		if got := ticks(t, p, 18, ""); got.Last != 18 {
			t.Errorf("last %d", got.Last)
		}
		if got, _ := lookedAt(t, p, planLook{now: 100000}); got.Last != 100000 {
			t.Errorf("last %d", got.Last)
		}
	}
	last := newPlan(t, cal(rule(1, 0, 99998, 100000)), impl.PlanBoth, 5, 99998)
	ticks(t, last, 100001, "")
	last = ticks(t, last, 99999, "99999 began")
	last = ticks(t, last, 100000, "100000 began")
	last = ticks(t, last, 100001, "")
	last = ends(t, last, 99999, 100001, "99999 ended")
	last = ends(t, last, 100000, math.MaxInt, "100000 ended")
	planBoard(t, last, "last 100000, next -1", "goes", "waits", "99999 began", "100000 began", "99999 ended", "100000 ended")
}

func TestPlansFromATick(t *testing.T) {
	zero := cal(rule(1, 0, 0, 100000))
	for _, c := range []struct {
		from int
		told string
	}{{-1, "0 missed, 1 began"}, {0, "1 began"}, {1, ""}, {2, ""}, {100000, ""}} {
		p := newPlan(t, zero, impl.PlanSkip, 0, c.from)
		if p.Last != c.from {
			t.Errorf("last %d", p.Last)
		}
		ticks(t, p, 1, c.told)
	}
	p := newPlan(t, zero, impl.PlanSkip, 0, -1)
	ticks(t, p, 0, "0 began")
	ticks(t, p, -1, "")
	ticks(t, newPlan(t, zero, impl.PlanSkip, 0, 99999), 100000, "100000 began")
	ticks(t, newPlan(t, zero, impl.PlanSkip, 0, 100000), 100000, "")
}

func TestPlansBegin(t *testing.T) {
	rules := roomyCal(planRules)
	kept := wholeCal(rules)
	for policy := range 8 {
		for _, window := range []int{math.MinInt, -1, 0, 1, 999, 1000, 1001, math.MaxInt} {
			for _, from := range []int{math.MinInt, -2, -1, 0, 1, 40, 99999, 100000, 100001, math.MaxInt} {
				p, ok := impl.PlanNew(rules, policy-1, window, from)
				want := impl.Plan{Rules: rules, Policy: policy - 1, Window: window, Last: from}
				right := policy >= 2 && policy <= 6 && window >= 0 && window <= 1000 && from >= -1 && from <= 100000
				if !right {
					want = impl.Plan{}
				}
				if ok != right || planShape(p) != planShape(want) || impl.PlanOk(p) != right {
					t.Errorf("%d, %d, %d: %v, %s", policy-1, window, from, ok, planShape(p))
				}
				lieApart(t, spansOfCal("the rules", rules), spansOfPlan("the plan", p))
			}
		}
	}
	for _, wrong := range [][]impl.CalRule{nil, {}, cal(rule(0, 0, 0, 9)), cal(rule(5, 2, 0, 40), rule(5, 5, 0, 40)), slices.Repeat(cal(rule(5, 2, 0, 40)), 5)} {
		if p, ok := impl.PlanNew(wrong, impl.PlanSkip, 5, 0); ok || planShape(p) != planShape(impl.Plan{}) {
			t.Errorf("%s: %v, %s", calShape(wrong), ok, planShape(p))
		}
	}
	for _, policy := range []int{math.MinInt, math.MaxInt, 1 << 40} {
		if p, ok := impl.PlanNew(rules, policy, 5, 0); ok || planShape(p) != planShape(impl.Plan{}) {
			t.Errorf("%d: %v, %s", policy, ok, planShape(p))
		}
	}
	if wholeCal(rules) != kept {
		t.Errorf("%s was changed to %s", kept, wholeCal(rules))
	}
}

func became(tick, what int) impl.PlanTold {
	return impl.PlanTold{Tick: tick, What: what}
}

func TestPlansOk(t *testing.T) {
	many := func(count int) []impl.PlanTold { return slices.Repeat([]impl.PlanTold{became(2, 1)}, count) }
	ones := cal(rule(1, 0, 0, 100))
	for _, c := range []struct {
		what  string
		right bool
		spoil func(p *impl.Plan)
	}{
		{"as it is", true, func(p *impl.Plan) {}},
		{"nothing at all", false, func(p *impl.Plan) { *p = impl.Plan{} }},
		{"no rules", false, func(p *impl.Plan) { p.Rules = nil }},
		{"rules that are not ok", false, func(p *impl.Plan) { p.Rules[1].Every = 0 }},
		{"too many rules", false, func(p *impl.Plan) { p.Rules = slices.Repeat(p.Rules, 3) }},
		{"policy 0", false, func(p *impl.Plan) { p.Policy = 0 }},
		{"policy 6", false, func(p *impl.Plan) { p.Policy = 6 }},
		{"policy -1", false, func(p *impl.Plan) { p.Policy = -1 }},
		{"policy far below", false, func(p *impl.Plan) { p.Policy = math.MinInt }},
		{"policy far above", false, func(p *impl.Plan) { p.Policy = math.MaxInt }},
		{"window -1", false, func(p *impl.Plan) { p.Window = -1 }},
		{"window 0", true, func(p *impl.Plan) { p.Window = 0 }},
		{"window 1000", true, func(p *impl.Plan) { p.Window = 1000 }},
		{"window 1001", false, func(p *impl.Plan) { p.Window = 1001 }},
		{"last -1", true, func(p *impl.Plan) { p.Last, p.Goes, p.Waits, p.Told = -1, nil, nil, nil }},
		{"last -2", false, func(p *impl.Plan) { p.Last, p.Goes, p.Waits, p.Told = -2, nil, nil, nil }},
		{"last 100000", true, func(p *impl.Plan) { p.Last = 100000 }},
		{"last 100001", false, func(p *impl.Plan) { p.Last = 100001 }},
		{"last at what waits", true, func(p *impl.Plan) { p.Last = 27 }},
		{"last below what waits", false, func(p *impl.Plan) { p.Last = 26 }},
		{"last at what goes on", true, func(p *impl.Plan) { p.Last, p.Waits, p.Told = 17, nil, nil }},
		{"last below what goes on", false, func(p *impl.Plan) { p.Last, p.Waits, p.Told = 16, nil, nil }},
		{"last below what was told", false, func(p *impl.Plan) { p.Last, p.Goes, p.Waits, p.Told = 16, nil, nil, many(1); p.Told[0].Tick = 17 }},
		{"last at what was told", true, func(p *impl.Plan) { p.Last, p.Goes, p.Waits, p.Told = 17, nil, nil, many(1); p.Told[0].Tick = 17 }},
		{"what goes on is not due", false, func(p *impl.Plan) { p.Goes = []int{12} }},
		{"what goes on is far below", false, func(p *impl.Plan) { p.Goes = []int{math.MinInt} }},
		{"what goes on is far above", false, func(p *impl.Plan) { p.Goes, p.Waits = []int{math.MaxInt}, nil }},
		{"what waits is not due", false, func(p *impl.Plan) { p.Waits = []int{23} }},
		{"what waits is far above", false, func(p *impl.Plan) { p.Waits = []int{math.MaxInt} }},
		{"not due in the middle", false, func(p *impl.Plan) { p.Waits = []int{20, 21, 22} }},
		{"not due at the end", false, func(p *impl.Plan) { p.Waits = []int{20, 22, 23} }},
		{"waits without goes", false, func(p *impl.Plan) { p.Goes = nil }},
		{"neither goes nor waits", true, func(p *impl.Plan) { p.Goes, p.Waits = nil, nil }},
		{"goes without waits", true, func(p *impl.Plan) { p.Waits = []int{} }},
		{"it waits and goes on", false, func(p *impl.Plan) { p.Waits = []int{17} }},
		{"what waits is below", false, func(p *impl.Plan) { p.Waits = []int{7} }},
		{"the first that waits is below", false, func(p *impl.Plan) { p.Waits = []int{7, 22} }},
		{"waits descend", false, func(p *impl.Plan) { p.Waits = []int{22, 20} }},
		{"the same waits twice", false, func(p *impl.Plan) { p.Waits = []int{20, 20} }},
		{"two go on", false, func(p *impl.Plan) { p.Goes = []int{7, 17} }},
		{"eight wait", true, func(p *impl.Plan) { p.Rules, p.Waits = ones, []int{18, 19, 20, 21, 22, 23, 24, 25} }},
		{"nine wait", false, func(p *impl.Plan) { p.Rules, p.Waits = ones, []int{18, 19, 20, 21, 22, 23, 24, 25, 26} }},
		{"60 told", true, func(p *impl.Plan) { p.Told = many(60) }},
		{"61 told", false, func(p *impl.Plan) { p.Told = many(61) }},
		{"none told", true, func(p *impl.Plan) { p.Told = []impl.PlanTold{} }},
		{"the same told twice", true, func(p *impl.Plan) { p.Told = many(2) }},
		{"told of what is 0", false, func(p *impl.Plan) { p.Told[1].What = 0 }},
		{"told of what is 6", false, func(p *impl.Plan) { p.Told[0].What = 6 }},
		{"told of what is far", false, func(p *impl.Plan) { p.Told[1].What = math.MinInt }},
		{"told of what is not due", false, func(p *impl.Plan) { p.Told[1].Tick = 12 }},
		{"told of what is above last", false, func(p *impl.Plan) { p.Told[0].Tick = 32 }},
		{"told of what is far below", false, func(p *impl.Plan) { p.Told[0].Tick = math.MinInt }},
		{"told in no order", true, func(p *impl.Plan) { p.Told = []impl.PlanTold{became(27, 5), became(2, 4), became(20, 3), became(7, 2)} }},
	} {
		p := impl.Plan{Rules: copyCal(planRules), Policy: impl.PlanWaitAll, Window: 6, Last: 29, Goes: []int{17}, Waits: []int{20, 27}, Told: []impl.PlanTold{became(17, 1), became(22, 2)}}
		c.spoil(&p)
		if planOkBy(p) != c.right {
			t.Fatalf("%s: the second reckoning says otherwise", c.what)
		}
		if !c.right {
			noPlan(t, c.what, p)
			continue
		}
		if !impl.PlanOk(roomyPlan(p)) || impl.PlanBoard(p) != planBoardBy(p) {
			t.Errorf("%s: %s is not ok, or its board is %q", c.what, planShape(p), impl.PlanBoard(p))
		}
		for _, now := range []int{0, 30, 100000} {
			lookedAt(t, p, planLook{now: now})
			lookedAt(t, p, planLook{ends: true, tick: 17, now: now})
		}
	}
}

// By each policy, so many of each and one more.
func TestPlansOkByPolicy(t *testing.T) {
	ones := cal(rule(1, 0, 0, 100))
	for _, policy := range policies {
		mostGoes, mostWaits := mostBy(policy)
		for goes := range 11 {
			for waits := range 11 {
				p := impl.Plan{Rules: ones, Policy: policy, Last: 30}
				for n := range goes {
					p.Goes = append(p.Goes, n)
				}
				for n := range waits {
					p.Waits = append(p.Waits, 10+n)
				}
				right := goes <= mostGoes && waits <= mostWaits && (goes > 0 || waits == 0)
				if right != impl.PlanOk(p) {
					t.Errorf("%s is ok: %v", planShape(p), !right)
				}
				if !right {
					noPlan(t, fmt.Sprint(goes, " go on, ", waits, " wait"), p)
				} else {
					lookedAt(t, p, planLook{now: 33})
					lookedAt(t, p, planLook{ends: true, tick: 0, now: 33})
				}
			}
		}
	}
	for _, goes := range [][]int{{1, 3, 2}, {1, 1}, {5, 4}, {2, 3, 3}} {
		noPlan(t, "not ascending", impl.Plan{Rules: ones, Policy: impl.PlanBoth, Last: 30, Goes: goes})
	}
}

func TestPlansAreNewMemory(t *testing.T) {
	p := roomyPlan(ticks(t, newPlan(t, planRules, impl.PlanWaitAll, 30, 0), 25, "2 began"))
	for _, look := range []planLook{{now: 25}, {now: 30}, {now: 24}, {now: 100001}, {ends: true, tick: 2, now: 25}, {ends: true, tick: 2, now: 40}, {ends: true, tick: 3, now: 24}} {
		one, first := look.do(p)
		two, second := look.do(p)
		lieApart(t, spansOfPlan("p", p), spansOfPlan("one", one), spansOfPlan("two", two), spanOf("first", first), spanOf("second", second))
	}
	one, two := newPlan(t, p.Rules, impl.PlanSkip, 0, 0), newPlan(t, p.Rules, impl.PlanSkip, 0, 0)
	lieApart(t, spansOfPlan("p", p), spansOfPlan("one", one), spansOfPlan("two", two))
}

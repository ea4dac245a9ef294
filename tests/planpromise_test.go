package tests

import (
	"math/rand"
	"slices"
	"strings"
	"testing"

	"loop.example/dunlin/impl"
)

// Each time becomes one thing, once, in time, whatever is looked at, and whatever ends; all that was told ever is kept beside the plan.
func TestEachTimeOnce(t *testing.T) {
	t.Parallel()
	r := rand.New(rand.NewSource(64))
	seen := map[string]int{}
	for range 1500 {
		p := anyNewPlan(t, r)
		from := p.Last
		var ever []impl.PlanTold
		for range 4 + r.Intn(40) {
			look := anyLook(r, p)
			next, told := lookedAt(t, p, look)
			ever = append(ever, told...)
			if next.Last > 5000 {
				// All that a plan was told is gone through behind each look.
				break
			}
			eachTimeOnce(t, next, from, ever)
			noteLook(seen, p, look, next, told)
			p = next
		}
	}
	for _, what := range []string{"began", "skipped", "missed", "stopped", "ended", "missed behind an end", "two missed behind an end", "began behind an end", "nothing at the same tick", "ended at another tick", "stopped, and did not end", "began and ended", "full of what waits", "full of what goes on", "ended within", "more told than is kept"} {
		if seen[what] < 20 {
			t.Errorf("too little of what was to be seen, %s: %v", what, seen)
		}
	}
}

// noteLook notes what random looks must have met.
func noteLook(seen map[string]int, p impl.Plan, look planLook, next impl.Plan, told []impl.PlanTold) {
	ended := slices.IndexFunc(told, func(one impl.PlanTold) bool { return one.What == impl.TimeEnded })
	for i, one := range told {
		seen[toldNames[one.What]]++
		if ended >= 0 && i > ended {
			seen[toldNames[one.What]+" behind an end"]++
		}
		if i > 0 && ended >= 0 && i > ended+1 && one.What == impl.TimeMissed {
			seen["two missed behind an end"]++
		}
		if look.ends && one == (impl.PlanTold{Tick: look.tick, What: impl.TimeStopped}) {
			seen["stopped, and did not end"]++
		}
		if ended >= 0 && one == (impl.PlanTold{Tick: look.tick, What: impl.TimeBegan}) && i < ended {
			seen["began and ended"]++
		}
	}
	if look.now == p.Last && len(told) == 0 {
		seen["nothing at the same tick"]++
	}
	if ended >= 0 && look.now < p.Last {
		seen["ended at another tick"]++
	}
	if len(next.Waits) == 8 {
		seen["full of what waits"]++
	}
	if len(next.Goes) == 8 {
		seen["full of what goes on"]++
	}
	if place := slices.Index(p.Goes, look.tick); ended >= 0 && place > 0 && place < len(p.Goes)-1 {
		seen["ended within"]++
	}
	if len(told) > 60 {
		seen["more told than is kept"]++
	}
}

// Looked at again at the same tick a plan stays as it was; up to a window it does not matter how often it is looked at.
func TestLookingTwice(t *testing.T) {
	t.Parallel()
	r := rand.New(rand.NewSource(65))
	among, busy := 0, 0
	for range 4000 {
		p := anyPlan(t, r)
		if r.Intn(2) == 0 {
			p, _ = lookedAt(t, p, anyLook(r, p))
		}
		far := min(100000, p.Last+r.Intn(p.Window+1))
		between := p.Last + r.Intn(far-p.Last+1)
		once, told := lookedAt(t, p, planLook{now: far})
		if again, more := lookedAt(t, once, planLook{now: far}); planShape(again) != planShape(once) || len(more) > 0 {
			t.Fatalf("%s, looked at again: %s, told %s", planShape(once), planShape(again), toldText(more))
		}
		first, some := lookedAt(t, p, planLook{now: between})
		twice, rest := lookedAt(t, first, planLook{now: far})
		if planShape(twice) != planShape(once) || toldText(slices.Concat(some, rest)) != toldText(told) {
			t.Fatalf("%s, looked at at %d and %d: %s, told %s; at once %s, told %s", planShape(p), between, far, planShape(twice), toldText(slices.Concat(some, rest)), planShape(once), toldText(told))
		}
		// An end at the last tick is the same, too.
		if len(p.Goes) > 0 {
			look := planLook{ends: true, tick: p.Goes[0], now: far}
			one, _ := lookedAt(t, p, look)
			two, _ := lookedAt(t, first, look)
			if planShape(one) != planShape(two) {
				t.Fatalf("%s, %+v: %s; looked at at %d ahead %s", planShape(p), look, planShape(one), between, planShape(two))
			}
		}
		if len(some) > 0 && len(rest) > 0 {
			among++
		}
		if len(p.Goes) > 0 && len(told) > 0 {
			busy++
		}
	}
	if among < 300 || busy < 300 {
		t.Errorf("%d told at both looks, %d with something that goes on", among, busy)
	}
	// Further than the window it does matter.
	p := fives(t, impl.PlanSkip, 4)
	ticks(t, ticks(t, p, 5, "5 began"), 10, "10 skipped")
	ticks(t, p, 10, "5 missed, 10 began")
}

// A plan that is ok stays so, and has a board; one that is not is nothing; however it came about.
func TestAnyPlans(t *testing.T) {
	t.Parallel()
	r := rand.New(rand.NewSource(66))
	right, wrong := 0, 0
	for range 8000 {
		p := anyPlan(t, r)
		if r.Intn(3) > 0 {
			p = spoilPlan(r, p)
		}
		ok := planOkBy(p)
		if impl.PlanOk(p) != ok {
			t.Fatalf("%s is ok: %v", planShape(p), !ok)
		}
		if board := impl.PlanBoard(p); r.Intn(10) == 0 && board != planBoardBy(p) || (board == "") == ok {
			t.Fatalf("%s: the board is %q", planShape(p), board)
		}
		if !ok {
			wrong++
			if r.Intn(20) == 0 {
				noPlan(t, "spoilt", p)
			}
			p.Window = max(0, min(p.Window, 1000))
			p.Last = max(-1, min(p.Last, 100000))
		} else {
			right++
		}
		for range 3 {
			look := anyLook(r, p)
			next, _ := lookedAt(t, p, look)
			if !ok {
				break
			}
			p = next
		}
	}
	if right < 2000 || wrong < 2000 {
		t.Errorf("%d were right, %d wrong", right, wrong)
	}
}

// Plans begin just if they are ok, with nothing that goes on, waits, or was told.
func TestAnyPlansBegin(t *testing.T) {
	t.Parallel()
	r := rand.New(rand.NewSource(67))
	right, wrong := 0, 0
	for range 6000 {
		p := anyNewPlan(t, r)
		for range r.Intn(6) {
			p = spoilPlan(r, p)
		}
		p.Goes, p.Waits, p.Told = nil, nil, nil
		rules := roomyCal(p.Rules)
		kept := wholeCal(rules)
		got, ok := impl.PlanNew(rules, p.Policy, p.Window, p.Last)
		if ok != planOkBy(p) || ok && planShape(got) != planShape(p) || !ok && planShape(got) != planShape(impl.Plan{}) {
			t.Fatalf("%s: %v, %s", planShape(p), ok, planShape(got))
		}
		if wholeCal(rules) != kept {
			t.Fatalf("%s was changed to %s", kept, wholeCal(rules))
		}
		lieApart(t, spansOfCal("the rules", rules), spansOfPlan("the plan", got))
		if ok {
			right++
			board := impl.PlanBoard(got)
			if !strings.HasSuffix(board, "\ngoes\nwaits\n") || strings.Count(board, "\n") != 3 {
				t.Fatalf("%s: the board is %q", planShape(got), board)
			}
		} else {
			wrong++
		}
	}
	if right < 1000 || wrong < 1000 {
		t.Errorf("%d were right, %d wrong", right, wrong)
	}
}

func TestPlansAskedAtOnce(t *testing.T) {
	p := newPlan(t, planRules, impl.PlanWaitAll, 30, -1)
	askedAtOnce(t, "the board ", func() string {
		q, _ := impl.PlanTick(p, 22)
		q, told := impl.PlanEnds(q, 2, 41)
		return impl.PlanBoard(q) + toldText(told)
	})
}

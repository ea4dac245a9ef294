package tests

import (
	"fmt"
	"math/rand"
	"slices"
	"strings"
	"testing"

	"loop.example/dunlin/impl"
)

// From an opening on, behind all that may happen, a house is safe, forgets nothing, begins nothing twice, and is as a second reckoning says.
func TestHousesByASecondReckoning(t *testing.T) {
	t.Parallel()
	r := rand.New(rand.NewSource(71))
	seen := map[string]int{}
	for range 100 {
		h := anyHouse(t, r)
		l := newLedger(h)
		for moves := range 50 {
			list := anyMoves(r, h)
			for i, e := range list {
				if i > 0 && i+1 < len(list) && sameEvent(list[i-1], e) && sameEvent(e, list[i+1]) {
					// Of what comes again and again the first and the last are enough.
					h, _ = impl.HouseDo(h, e)
					continue
				}
				x, code := happensAlike(t, h, e)
				if !impl.HouseSafe(x) || e.Kind != impl.HouseServes && (!houseSafeBy(x) || houseOkBy(x) != "") {
					t.Fatalf("%+v of\n%s\nnot safe:\n%s", e, houseShape(h), houseShape(x))
				}
				l.timesTold(h, e)
				l.goesOn(t, fmt.Sprintf("%+v", e), h, x)
				noteHouse(seen, h, e, x, code)
				h = x
			}
			if moves%8 == 0 {
				toldOfHouse(t, h)
			}
			if r.Intn(25) == 0 {
				h = l.rests(t, h, 1+r.Intn(3))
			}
		}
	}
	for _, what := range []string{
		"serves 1 code 0", "serves 2 code 0", "serves 2 code 3", "serves 2 code 4", "serves 3 code 0", "serves 4 code 0", "serves 4 code 4", "serves 4 code 6", "serves 5 code 0", "serves 6 code 0", "serves 7 code 0", "serves 7 code 8", "serves 8 code 0", "serves 9 code 0", "serves 10 code 0", "serves 11 code 0", "serves 12 code 0",
		"keeps code 0", "keeps code 5", "keeps code 6", "kept 1", "kept 2", "kept 4", "a run moved", "a task moved",
		"policy 1 began", "policy 1 skipped", "policy 1 missed", "policy 1 ended", "policy 2 began", "policy 2 skipped", "policy 2 missed", "policy 2 ended", "policy 3 began", "policy 3 missed", "policy 3 ended", "policy 4 began", "policy 4 missed", "policy 4 ended", "policy 5 began", "policy 5 missed", "policy 5 stopped", "policy 5 ended",
		"stopped ahead of its run", "stopped while its run is there", "owed, cancels false", "owed, cancels true", "not owed any more, cancels false", "not owed any more, cancels true",
	} {
		if seen[what] < 3 {
			t.Errorf("%s came %d times", what, seen[what])
		}
	}
	if t.Failed() || testing.Verbose() {
		t.Log(seen)
	}
}

func sameEvent(a, b impl.HouseEvent) bool {
	return a.Kind == impl.HouseServes && b.Kind == a.Kind && slices.Contains([]int{impl.ServTicks, impl.ServCancels}, a.Serv.Kind) && fmt.Sprint(a) == fmt.Sprint(b)
}

// toldOfHouse asks that there is a board, and for the time of each name that there may be.
func toldOfHouse(t *testing.T, h impl.House) {
	t.Helper()
	board := impl.HouseBoard(h)
	if board != houseBoardBy(h) || board == "" {
		t.Fatalf("board %q, asked for %q", board, houseBoardBy(h))
	}
	var names []string
	for _, p := range h.Plans {
		for _, tick := range []int{0, 1, 7, p.Plan.Last, p.Plan.Last + 1, 100000} {
			names = append(names, impl.HouseRun(p.Name, tick))
		}
	}
	for _, name := range append(names, runNames(h)...) {
		place, tick, ok := impl.HouseTime(h, name)
		wantPlace, wantTick, want := timeBy(h, name)
		if place != wantPlace || tick != wantTick || ok != want {
			t.Fatalf("%q: %d, %d, %v; asked for %d, %d, %v", name, place, tick, ok, wantPlace, wantTick, want)
		}
	}
}

// The name of a time's run tells which it is, and no other name does.
func TestNamesOfTimes(t *testing.T) {
	t.Parallel()
	r := rand.New(rand.NewSource(72))
	due, other := 0, 0
	for range 80 {
		h := lived(t, r, r.Intn(12))
		for range 25 {
			plan, tick := []string{"a", "ab", "b", "p", "pq", "z", "zz", "", "q", "abc", "A", "a1"}[r.Intn(12)], r.Intn(60)-5
			if len(h.Plans) > 0 && r.Intn(3) > 0 {
				plan = h.Plans[r.Intn(len(h.Plans))].Name
			}
			name := impl.HouseRun(plan, tick)
			named := planForm.MatchString(plan) && tick >= 0
			if named && name != plan+fmt.Sprint(tick) || !named && name != "" {
				t.Fatalf("%q at %d: %q", plan, tick, name)
			}
			place, at, ok := impl.HouseTime(h, name)
			i := slices.IndexFunc(h.Plans, func(p impl.HousePlan) bool { return p.Name == plan })
			if i >= 0 && tick >= 0 && impl.CalDue(h.Plans[i].Plan.Rules, tick) {
				due++
				if !ok || place != i || at != tick {
					t.Fatalf("%s is %d of %d, %v: %s", name, at, place, ok, houseShape(h))
				}
				continue
			}
			other++
			if ok || place != -1 || at != -1 {
				t.Fatalf("%q is %d of %d, %v: %s", name, at, place, ok, houseShape(h))
			}
			// A name that is changed tells of another time, or of none.
			for _, changed := range []string{name + "0", "0" + name, strings.Replace(name, "1", "01", 1), name + " ", strings.ToUpper(name)} {
				place, at, ok := impl.HouseTime(h, changed)
				if wantPlace, wantAt, want := timeBy(h, changed); place != wantPlace || at != wantAt || ok != want || ok && impl.HouseRun(h.Plans[place].Name, at) != changed {
					t.Fatalf("%q is %d of %d, %v: %s", changed, at, place, ok, houseShape(h))
				}
			}
		}
	}
	if due < 100 || other < 500 {
		t.Errorf("%d due, %d others", due, other)
	}
}

// A second look at one tick begins nothing more, if nothing was owed behind the first; it changes nothing then.
func TestLookingTwiceAtHouses(t *testing.T) {
	t.Parallel()
	r := rand.New(rand.NewSource(73))
	told, owed := 0, 0
	for range 250 {
		h := lived(t, r, r.Intn(50))
		for range r.Intn(5) {
			h, _ = impl.HouseDo(h, evServe(evTick()))
		}
		once, _ := impl.HouseDo(h, evLook())
		twice, _ := impl.HouseDo(once, evLook())
		if len(once.Owes) > 0 {
			owed++
			continue
		}
		if !sameHouse(once, h) {
			told++
		}
		if !sameHouse(once, twice) {
			t.Fatalf("%s, looked at: %s, and again: %s", houseShape(h), houseShape(once), houseShape(twice))
		}
	}
	if told < 100 || owed < 20 {
		t.Errorf("%d looks changed something, %d owed", told, owed)
	}
}

// Some calm rounds and then some more are both together; a house that is ok stays so, and one that is safe, too.
func TestCalmOfAnyHouses(t *testing.T) {
	t.Parallel()
	r := rand.New(rand.NewSource(74))
	past := 0
	for n := range 60 {
		h := lived(t, r, r.Intn(60))
		x := rests(t, h, 1+r.Intn(5))
		toldOfHouse(t, x)
		a, b := r.Intn(20), r.Intn(20)
		if n%6 == 0 {
			a = r.Intn(201)
			b = 200 - a
		}
		both := impl.HouseCalm(h, a+b)
		two := impl.HouseCalm(impl.HouseCalm(h, a), b)
		if !sameHouse(two, both) {
			t.Fatalf("%d and %d rounds of %s: %s, and %s", a, b, houseShape(h), houseShape(two), houseShape(both))
		}
		if !impl.HouseOk(both) || !impl.HouseSafe(both) || !impl.HouseSafe(x) {
			t.Fatalf("not safe: %s", houseShape(both))
		}
		l := newLedger(h)
		for _, name := range runNames(h) {
			l.begun[name] = true
		}
		for _, p := range h.Past {
			if i := pastBy(both, p.Name); i < 0 || both.Past[i] != p {
				t.Fatalf("%+v was forgotten: %s", p, houseShape(both))
			}
		}
		for name := range l.begun {
			if slices.Contains(runNames(both), name) == (pastBy(both, name) >= 0) {
				t.Fatalf("%s was forgotten: %s", name, houseShape(both))
			}
		}
		past += len(both.Past) - len(h.Past)
	}
	if past < 200 {
		t.Errorf("%d were put away", past)
	}
}

// Of any house it is said rightly whether it is ok; what happens to one that is leaves it ok, and is as a second reckoning says.
func TestAnyHouses(t *testing.T) {
	t.Parallel()
	r := rand.New(rand.NewSource(75))
	seen := map[string]int{}
	for range 80 {
		h := lived(t, r, 10+r.Intn(40))
		for range 30 {
			x := spoilHouse(r, h)
			wrong := houseOkBy(x)
			seen["wrong: "+wrong]++
			if impl.HouseOk(x) != (wrong == "") {
				t.Fatalf("%q by hand: %s", wrong, houseShape(x))
			}
			if wrong != "" {
				noHouse(t, wrong, x)
				continue
			}
			if impl.HouseSafe(x) != houseSafeBy(x) {
				t.Fatalf("safe is not %v: %s", houseSafeBy(x), houseShape(x))
			}
			seen[fmt.Sprint("safe ", houseSafeBy(x))]++
			toldOfHouse(t, x)
			for _, e := range append(anyMoves(r, x), evLook(), evKeep(0), evKeep(r.Intn(7))) {
				y, code := happensAlike(t, x, e)
				noteHouse(seen, x, e, y, code)
				x = y
			}
			if r.Intn(6) == 0 {
				rests(t, x, 1+r.Intn(2))
			}
		}
	}
	for _, what := range []string{"", "service", "plans", "name of a plan", "plan", "last", "flow", "args", "past", "name of what is past", "past, and a run", "how it stood", "whose it is owed", "owed at another tick", "owed a cancelling without a run", "owed its beginning, and begun", "owed its beginning, and does not go on", "owed twice"} {
		if seen["wrong: "+what] < 3 {
			t.Errorf("wrong: %q came %d times", what, seen["wrong: "+what])
		}
	}
	if seen["safe true"] < 100 || seen["safe false"] < 50 || seen["keeps code 0"] < 20 || seen["owed, cancels true"] < 20 {
		t.Errorf("%v", seen)
	}
}

// isPlain says whether a workflow waits for no signals with times, and does not begin anew.
func isPlain(lines []impl.FlowLine) bool {
	return !slices.ContainsFunc(lines, func(l impl.FlowLine) bool {
		return l.Kind == impl.FlowNext || l.Kind == impl.FlowGet && len(l.Args) > 0
	})
}

// mildHouse has plain workflows, and no plan by which a time takes another one's place.
func mildHouse(t *testing.T, r *rand.Rand) impl.House {
	t.Helper()
	for {
		h := anyHouse(t, r)
		mild := slices.IndexFunc(h.Serv.Flows, func(lines []impl.FlowLine) bool { return !isPlain(lines) }) < 0
		if mild && len(h.Plans) > 0 && !slices.ContainsFunc(h.Plans, func(p impl.HousePlan) bool { return p.Plan.Policy == impl.PlanInstead }) {
			return h
		}
	}
}

// Each time's run comes to what its workflow means, whatever fell, was lost or late.
func TestEachTimesRunComesToWhatItMeans(t *testing.T) {
	t.Parallel()
	r := rand.New(rand.NewSource(76))
	seen := map[string]int{}
	for range 100 {
		h := mildHouse(t, r)
		for range 20 + r.Intn(40) {
			if r.Intn(12) == 0 {
				h, _ = impl.HouseDo(h, evServe(evFall(r.Intn(len(h.Serv.Workers)))))
			}
			for _, e := range anyMoves(r, h) {
				if e.Kind == impl.HouseServes && (e.Serv.Kind == impl.ServCancels || e.Serv.Kind == impl.ServDeploys) {
					continue
				}
				x, code := impl.HouseDo(h, e)
				if code == 8 {
					seen["fenced"]++
				}
				if e.Kind == impl.HouseServes && code == 0 && e.Serv.Lost {
					seen["lost"]++
				}
				if e.Kind == impl.HouseServes && code == 0 && e.Serv.Kind == impl.ServRises {
					seen["risen"]++
				}
				h = x
			}
		}
		for who := range h.Serv.Workers {
			h, _ = impl.HouseDo(h, evServe(evRise(who)))
		}
		h = impl.HouseCalm(h, 100)
		if !impl.HouseSafe(h) {
			t.Fatalf("not safe: %s", houseShape(h))
		}
		for _, p := range h.Past {
			place, _, ok := impl.HouseTime(h, p.Name)
			if !ok {
				continue
			}
			plan := h.Plans[place]
			played, _ := impl.RunPlay(h.Serv.Flows[plan.Flow], plan.Args, nil, nil, impl.RunMaxPlay)
			if played.Stands == impl.RunLive || played.Result == impl.RunBusy || p.Result == impl.RunBusy {
				seen["left out"]++
				continue
			}
			seen[fmt.Sprint("stands ", p.Stands)]++
			if p.Stands != played.Stands || p.Result != played.Result {
				t.Fatalf("%s%v: %+v, asked for %s", impl.FlowPrint(h.Serv.Flows[plan.Flow]), plan.Args, p, shape(played))
			}
		}
	}
	cameOften(t, seen, map[string]int{"fenced": 3, "lost": 40, "risen": 10, "stands 1": 500, "stands 2": 20})
}

// Nothing that is handed in is changed, also behind its end; an answer shares no memory with it, nor two lists of one answer.
func TestHousesAreNewMemory(t *testing.T) {
	t.Parallel()
	r := rand.New(rand.NewSource(77))
	for range 30 {
		h := lived(t, r, 10+r.Intn(40))
		for range 8 {
			h = roomyHouse(h)
			moves := anyMoves(r, h)
			if len(moves) == 0 {
				continue
			}
			e := []impl.HouseEvent{moves[0], evLook(), evKeep(r.Intn(6))}[r.Intn(3)]
			e.Serv.Nums, e.Serv.Lines = roomy(e.Serv.Nums, 77), roomyLines(e.Serv.Lines)
			given := func() string {
				return wholeHouse(h) + fmt.Sprint(e.Serv.Nums[:cap(e.Serv.Nums)], e.Serv.Lines[:cap(e.Serv.Lines)])
			}
			before := given()
			spans := slices.Concat(spansOfHouse("ahead", h), spanOf("Nums", e.Serv.Nums), spansOfLines("Lines", e.Serv.Lines))
			x, code := impl.HouseDo(h, e)
			lieApart(t, spans, spansOfHouse("behind", x))
			lieApart(t, spans, spansOfHouse("calm", impl.HouseCalm(h, r.Intn(3))))
			impl.HouseBoard(h)
			impl.HouseSafe(h)
			impl.HouseTime(h, "a2")
			opened, ok := impl.HouseOpen(h.Serv.Flows, 1, 1, h.Plans)
			if !ok {
				t.Fatalf("not opened again: %s", houseShape(h))
			}
			lieApart(t, spans, spansOfHouse("opened", opened))
			if given() != before || t.Failed() {
				t.Fatalf("%+v, code %d: %s became %s", e, code, before, given())
			}
			h = x
		}
	}
}

// What is answered hangs on what is handed in alone, from however many sides, and however often, it is asked.
func TestHousesHangOnNothingElse(t *testing.T) {
	t.Parallel()
	r := rand.New(rand.NewSource(78))
	for range 12 {
		h := lived(t, r, 20+r.Intn(30))
		e := anyMoves(r, h)[0]
		ask := func() string {
			x, code := impl.HouseDo(h, e)
			place, tick, ok := impl.HouseTime(h, "a2")
			return fmt.Sprint(houseShape(x), code, houseShape(impl.HouseCalm(h, 4)), impl.HouseBoard(h), impl.HouseSafe(h), place, tick, ok)
		}
		askedAtOnce(t, houseShape(h), ask)
	}
}

package tests

import (
	"fmt"
	"math"
	"slices"
	"strings"
	"testing"

	"loop.example/dunlin/impl"
)

// A house opens with its service, and with plans at which nobody looked, whatever else was handed in of them.
func TestHousesOpen(t *testing.T) {
	flows := flowsOf(t, jobFlow, "workflow tiny|return 1", "workflow w a b c|return c")
	all := []impl.HousePlan{
		housePlan("a", 0, []int{-9999}, impl.PlanSkip, 0, rule(1, 0, 0, 100000)),
		housePlan("az", 1, nil, impl.PlanInstead, 1000, rule(5, 2, 0, 40, 12), rule(20, 0, 10, 100)),
		housePlan("z", 2, []int{1, 9999, 0}, impl.PlanBoth, 7, rule(9, 1, 3, 3)),
	}
	for count := range 4 {
		for shards := 1; shards <= 3; shards++ {
			plans := roomyPlans(all[:count])
			for i := range plans {
				plans[i].Plan.Last, plans[i].Plan.Goes, plans[i].Plan.Waits, plans[i].Plan.Told = 77, roomy([]int{5}, 6), roomy([]int{9}, 6), roomy([]impl.PlanTold{{Tick: 7, What: 7}}, impl.PlanTold{})
			}
			kept := wholePlans(plans)
			h, ok := impl.HouseOpen(flows, shards, 2, plans)
			want := impl.House{Plans: slices.Clone(all[:count])}
			want.Serv, _ = impl.ServOpen(flows, shards, 2)
			for i := range want.Plans {
				want.Plans[i].Plan.Last = -1
			}
			if !ok || houseShape(h) != houseShape(want) || wholePlans(plans) != kept {
				t.Errorf("%d plans, %d shards: %v, %s", count, shards, ok, houseShape(h))
			}
			if !impl.HouseOk(h) || !impl.HouseSafe(h) || houseOkBy(h) != "" || impl.HouseBoard(h) != houseBoardBy(h) {
				t.Errorf("not ok, or not safe: %s", houseShape(h))
			}
			lieApart(t, spansOfHouse("opened", h), spansOfPlans("given", plans), spansOfLines("flow", flows[0]))
		}
	}
	// Plans that are handed in with the same lists have lists of their own.
	args, rules := []int{3}, cal(rule(4, 2, 0, 20, 6))
	h := housed(t, flows, 1, 1, housePlan("a", 0, args, 1, 0, rules...), housePlan("b", 0, args, 1, 0, rules...))
	lieApart(t, spansOfHouse("opened", h), spanOf("args", args), spansOfCal("rules", rules))
}

func TestHousesThatDoNotOpen(t *testing.T) {
	flows := flowsOf(t, jobFlow, "workflow tiny|return 1")
	every := rule(4, 2, 0, 20)
	fits := housePlan("p", 0, []int{2}, 1, 0, every)
	plan := func(name string, flow int, args []int, policy, window int, rules ...impl.CalRule) []impl.HousePlan {
		return []impl.HousePlan{housePlan(name, flow, args, policy, window, rules...)}
	}
	called := func(names ...string) []impl.HousePlan {
		var list []impl.HousePlan
		for _, name := range names {
			list = append(list, housePlan(name, 0, []int{2}, 1, 0, every))
		}
		return list
	}
	for i, c := range []struct {
		flows           [][]impl.FlowLine
		shards, workers int
		plans           []impl.HousePlan
	}{
		{nil, 1, 1, nil},
		{nil, 1, 1, []impl.HousePlan{fits}},
		{[][]impl.FlowLine{flows[0], flows[1][:1]}, 1, 1, []impl.HousePlan{fits}},
		{slices.Repeat(flows, 3), 1, 1, []impl.HousePlan{fits}},
		{flows, 0, 1, []impl.HousePlan{fits}},
		{flows, 4, 1, []impl.HousePlan{fits}},
		{flows, 1, 0, []impl.HousePlan{fits}},
		{flows, 1, 4, []impl.HousePlan{fits}},
		{flows, 1, 1, called("a", "b", "c", "d")},
		{flows, 1, 1, called("b", "a")},
		{flows, 1, 1, called("a", "a")},
		{flows, 1, 1, called("a", "ab", "aa")},
		{flows, 1, 1, called("")},
		{flows, 1, 1, called("abc")},
		{flows, 1, 1, called("a1")},
		{flows, 1, 1, called("1")},
		{flows, 1, 1, called("P")},
		{flows, 1, 1, called("a ")},
		{flows, 1, 1, called("é")},
		{flows, 1, 1, called("a", "\xff")},
		{flows, 1, 1, plan("p", -1, []int{2}, 1, 0, every)},
		{flows, 1, 1, plan("p", 2, []int{2}, 1, 0, every)},
		{flows, 1, 1, plan("p", 0, nil, 1, 0, every)},
		{flows, 1, 1, plan("p", 0, []int{2, 2}, 1, 0, every)},
		{flows, 1, 1, plan("p", 1, []int{2}, 1, 0, every)},
		{flows, 1, 1, plan("p", 0, []int{10000}, 1, 0, every)},
		{flows, 1, 1, plan("p", 0, []int{-10000}, 1, 0, every)},
		{flows, 1, 1, plan("p", 0, []int{2}, 0, 0, every)},
		{flows, 1, 1, plan("p", 0, []int{2}, 6, 0, every)},
		{flows, 1, 1, plan("p", 0, []int{2}, 1, -1, every)},
		{flows, 1, 1, plan("p", 0, []int{2}, 1, 1001, every)},
		{flows, 1, 1, plan("p", 0, []int{2}, 1, 0)},
		{flows, 1, 1, plan("p", 0, []int{2}, 1, 0, rule(0, 0, 0, 0))},
		{flows, 1, 1, plan("p", 0, []int{2}, 1, 0, every, rule(4, 4, 0, 20))},
		{flows, 1, 1, plan("p", 0, []int{2}, 1, 0, every, every, every, every, every)},
		{flows, 1, 1, append(called("a"), plan("p", 0, []int{2}, 0, 0, every)...)},
	} {
		if h, ok := impl.HouseOpen(c.flows, c.shards, c.workers, c.plans); ok || houseShape(h) != houseShape(impl.House{}) {
			t.Errorf("case %d: %v, %s", i, ok, houseShape(h))
		}
	}
	for _, plans := range [][]impl.HousePlan{nil, called("a", "b", "c"), called("a", "aa", "ab"), called("zz"), plan("p", 0, []int{9999}, 5, 1000, every, every, every, every)} {
		if _, ok := impl.HouseOpen(flows, 3, 3, plans); !ok {
			t.Errorf("not opened: %+v", plans)
		}
	}
}

// fullHouse has something in each place: plans of several policies, runs of persons and of times, what is owed of both kinds, what is past, and tasks.
func fullHouse(t *testing.T) impl.House {
	t.Helper()
	h := housed(t, flowsOf(t, jobFlow, "workflow tiny|return 1"), 2, 2,
		housePlan("a", 0, []int{3}, impl.PlanBoth, 100, rule(2, 0, 2, 40)),
		housePlan("b", 0, []int{4}, impl.PlanInstead, 50, rule(3, 1, 0, 40)),
		housePlan("zz", 1, nil, impl.PlanWaitAll, 1000, rule(4, 3, 0, 40)))
	h = rests(t, lives(t, h, "begin man 1|tick|look|tick*2|look"), 4)
	h = lives(t, h, "take 0 2|take 0 4|take 0 5|cancel 4*30|tick|look|tick*2|look|tick|look")
	if runsOf(h) != "a2 a4 a6 b4 b7 zz7" || owesOf(h) != "begins a8, begins a10, cancels b7, begins b10" || fmt.Sprint(h.Past) != "[{b1 4 -9003} {man 1 1} {zz3 1 1}]" {
		t.Fatalf("%s", impl.HouseBoard(h))
	}
	boardHas(t, h, "plan a|last 11, next 12|goes 2 4 6 8 10|waits|2 began|4 began|6 began|8 began|10 began|plan b|last 11, next 13|goes 10|waits|1 began|1 stopped|4 began|4 stopped|7 began|7 stopped|10 began|plan zz|last 11, next 15|goes 7|waits 11|3 began|3 ended|7 began|owes begins a8|owes begins a10|owes cancels b7|owes begins b10|past b1 stopped -9003|past man done 1|past zz3 done 1")
	return h
}

type houseChange = changing[impl.House]

func allHouses(t *testing.T, list []houseChange) {
	t.Helper()
	told := func(what string, x impl.House, ok bool) {
		if !ok {
			noHouse(t, what, x)
		} else if impl.HouseBoard(x) != houseBoardBy(x) || impl.HouseSafe(x) != houseSafeBy(x) {
			t.Errorf("%s: safe %v, %q", what, impl.HouseSafe(x), impl.HouseBoard(x))
		}
	}
	houseDeeds.changed(t, fullHouse(t), list, told, evServe(evTick()), evServe(evBegin("man", 1)), evLook(), evKeep(0), evKeep(5))
}

// named makes a change for each name, of which the first are ok.
func named(right, wrong []string, set func(h *impl.House, name string)) []houseChange {
	var list []houseChange
	for i, name := range slices.Concat(right, wrong) {
		list = append(list, houseChange{fmt.Sprintf("name %q", name), i < len(right), func(h *impl.House) { set(h, name) }})
	}
	return list
}

func TestServicesOfHousesOk(t *testing.T) {
	allHouses(t, []houseChange{
		{"as it is", true, func(h *impl.House) {}},
		{"nothing", false, func(h *impl.House) { *h = impl.House{} }},
		{"no service", false, func(h *impl.House) { h.Serv = impl.ServWorld{} }},
		{"no flows", false, func(h *impl.House) { h.Serv.Flows = nil }},
		{"no flows, and nothing else", false, func(h *impl.House) {
			*h = impl.House{Serv: h.Serv}
			h.Serv.Flows, h.Serv.Runs, h.Serv.Workers[0].Tasks = nil, nil, nil
		}},
		{"a flow that is wrong", false, func(h *impl.House) { h.Serv.Flows[1] = h.Serv.Flows[1][:1] }},
		{"a shard", false, func(h *impl.House) { h.Serv.Shards[0].Owner = 2 }},
		{"a run that is not closed, but stands", false, func(h *impl.House) { h.Serv.Runs[0].Closed = true }},
		{"a worker", false, func(h *impl.House) { h.Serv.Workers[0].Up = false }},
		{"a task", false, func(h *impl.House) { h.Serv.Workers[0].Tasks[0].Run = 6 }},
		{"an effect", false, func(h *impl.House) { h.Serv.Effects[0].Tries = 0 }},
		{"a token", false, func(h *impl.House) { h.Serv.Tokens = []int{1, 1} }},
		{"now below what was looked at", false, func(h *impl.House) { h.Serv.Now = 10 }},
		{"now as what was looked at", true, func(h *impl.House) { h.Serv.Now = 11 }},
		{"a service alone", true, func(h *impl.House) { h.Plans, h.Owes, h.Past = nil, nil, nil }},
	})
}

func TestPlansOfHousesOk(t *testing.T) {
	allHouses(t, each("Flow", 0, 0, func(h *impl.House, n int) { h.Plans[1].Flow = n }))
	allHouses(t, each("Args", -9999, 9999, func(h *impl.House, n int) { h.Plans[0].Args[0] = n }))
	allHouses(t, each("Last", 10, 11, func(h *impl.House, n int) { h.Plans[1].Plan.Last = n }))
	allHouses(t, each("Policy", 1, 5, func(h *impl.House, n int) { h.Plans[1].Plan.Policy = n }))
	allHouses(t, each("Window", 0, 1000, func(h *impl.House, n int) { h.Plans[2].Plan.Window = n }))
	allHouses(t, named([]string{"b", "c", "aa", "bb", "zy"}, []string{"", "B", "b1", "1", "b ", " ", "bbb", "é", "\xff", "c\n", "{", "`", "a", "zz", "zzz"}, func(h *impl.House, name string) {
		h.Plans[1].Name, h.Owes = name, nil
	}))
	plain := housePlan("d", 0, []int{3}, impl.PlanSkip, 0, rule(2, 0, 2, 40))
	allHouses(t, []houseChange{
		{"four", false, func(h *impl.House) { h.Plans = slices.Insert(h.Plans, 2, plain) }},
		{"two", true, func(h *impl.House) { h.Plans, h.Owes = h.Plans[:2], h.Owes[:0] }},
		{"three others", true, func(h *impl.House) { h.Plans[2], h.Owes = plain, nil }},
		{"none, but owed", false, func(h *impl.House) { h.Plans = nil }},
		{"none", true, func(h *impl.House) { h.Plans, h.Owes = nil, nil }},
		{"in another order", false, func(h *impl.House) { h.Plans[0], h.Plans[1], h.Owes = h.Plans[1], h.Plans[0], nil }},
		{"one twice", false, func(h *impl.House) { h.Plans[1], h.Owes = h.Plans[0], nil }},
		{"another flow", false, func(h *impl.House) { h.Plans[1].Flow = 1 }},
		{"another flow, and its args", true, func(h *impl.House) { h.Plans[1].Flow, h.Plans[1].Args = 1, nil }},
		{"a flow that is none, without args", false, func(h *impl.House) { h.Plans[2].Flow = 2 }},
		{"an arg more", false, func(h *impl.House) { h.Plans[0].Args = append(h.Plans[0].Args, 1) }},
		{"no args", false, func(h *impl.House) { h.Plans[0].Args = nil }},
		{"an arg for none", false, func(h *impl.House) { h.Plans[2].Args = []int{0} }},
		{"no rules", false, func(h *impl.House) { h.Plans[2].Plan.Rules = nil }},
		{"a rule", false, func(h *impl.House) { h.Plans[2].Plan.Rules[0].Every = 0 }},
		{"another policy", false, func(h *impl.House) { h.Plans[0].Plan.Policy = impl.PlanSkip }},
		{"what goes on", false, func(h *impl.House) { h.Plans[0].Plan.Goes[0] = 3 }},
		{"what waits", false, func(h *impl.House) { h.Plans[2].Plan.Waits[0] = 7 }},
		{"what was told", false, func(h *impl.House) { h.Plans[0].Plan.Told[0].Tick = 12 }},
	})
}

func TestPastOfHousesOk(t *testing.T) {
	allHouses(t, each("Stands", 1, 4, func(h *impl.House, n int) { h.Past[0].Stands = n }))
	allHouses(t, each("Result", -9999, 9999, func(h *impl.House, n int) { h.Past[2].Result = n }))
	allHouses(t, named([]string{"m", "c1", "bc1", "b2", "n2345678", "zz2", "zz10"}, []string{"", "1b", "nA", "n ", "né", "n\xff", "n23456789", "a9", "b", "b1", "zz3", "zz4", "b4", "b7", "zz7", "b10"}, func(h *impl.House, name string) {
		h.Past[1].Name = name
	}))
	many := func(count int) func(h *impl.House) {
		return func(h *impl.House) {
			for i := range count {
				h.Past = append(h.Past, impl.HousePast{Name: fmt.Sprintf("zzz%03d", i), Stands: 1})
			}
		}
	}
	allHouses(t, []houseChange{
		{"none", true, func(h *impl.House) { h.Past = nil }},
		{"59", true, many(56)},
		{"60", true, many(57)},
		{"61", false, many(58)},
		{"600", false, many(597)},
		{"in another order", false, func(h *impl.House) { slices.Reverse(h.Past) }},
		{"one twice", false, func(h *impl.House) { h.Past = append(h.Past, h.Past[2]) }},
		{"one with nothing", false, func(h *impl.House) { h.Past[0] = impl.HousePast{} }},
		{"of a time that is owed its beginning", false, func(h *impl.House) { h.Past[0].Name = "a8" }},
		{"of a time that was", true, func(h *impl.House) { h.Past[0].Name = "a9" }},
		{"of a time that goes on", true, func(h *impl.House) { h.Past[0].Name, h.Owes = "b10", h.Owes[:3] }},
	})
}

func TestOwesOfHousesOk(t *testing.T) {
	owes := func(plan, tick int, cancel bool) func(h *impl.House) {
		return func(h *impl.House) {
			h.Owes = append(h.Owes, impl.HouseOwe{Plan: plan, Tick: tick, Cancel: cancel})
		}
	}
	allHouses(t, []houseChange{
		{"none", true, func(h *impl.House) { h.Owes = nil }},
		{"in another order", true, func(h *impl.House) { slices.Reverse(h.Owes) }},
		{"a beginning twice", false, owes(0, 8, false)},
		{"a cancelling twice", false, owes(1, 7, true)},
		{"one twice, side by side", false, owes(1, 10, false)},
		{"a plan below 0", false, owes(-1, 8, false)},
		{"a plan that is none", false, owes(3, 8, false)},
		{"a cancelling of a plan that is none", false, owes(3, 7, true)},
		{"a plan far below 0", false, owes(math.MinInt, 8, true)},
		{"a plan far off", false, owes(math.MaxInt, 8, true)},
		{"a cancelling of a run of a time that goes on", true, owes(0, 2, true)},
		{"a cancelling of a run of a time that ended", true, owes(1, 4, true)},
		{"a cancelling of the last run", true, owes(2, 7, true)},
		{"a cancelling of a run that is past", false, owes(1, 1, true)},
		{"a cancelling of a run that is owed its beginning", false, owes(0, 8, true)},
		{"a cancelling of a time that waits", false, owes(2, 11, true)},
		{"a cancelling at a tick that is not due", false, owes(0, 3, true)},
		{"a cancelling at a tick below 0", false, owes(0, -2, true)},
		{"a cancelling at a tick far off", false, owes(0, math.MaxInt, true)},
		{"a cancelling at a tick below all", false, owes(0, math.MinInt, true)},
		{"a beginning of a run that is there", false, owes(0, 6, false)},
		{"a beginning of a run that is past", false, func(h *impl.House) {
			h.Past[0].Name = "b10"
		}},
		{"a beginning of a time that waits", false, owes(2, 11, false)},
		{"a beginning of a time that ended", false, owes(2, 3, false)},
		{"a beginning of a time that was stopped ahead", false, func(h *impl.House) {
			h.Past, h.Owes = h.Past[1:], append(h.Owes, impl.HouseOwe{Plan: 1, Tick: 1})
		}},
		{"a beginning of a time that is to come", false, owes(0, 12, false)},
		{"a beginning of a time that goes on, and has no run any more", true, func(h *impl.House) {
			h.Serv.Runs, h.Serv.Workers[0].Tasks = slices.Delete(h.Serv.Runs, 0, 1), nil
			h.Owes = append(h.Owes, impl.HouseOwe{Plan: 0, Tick: 2})
		}},
		{"a beginning at a tick that is not due", false, owes(0, 3, false)},
		{"a beginning at a tick below 0", false, owes(0, -2, false)},
	})
	// A run by the name of a time that is to come is no fault of the house, but it is owed nothing, and not safe.
	coming := func(cancel bool) func(h *impl.House) {
		return func(h *impl.House) {
			h.Serv.Runs[2].Name = "a60"
			h.Plans[0].Plan.Rules[0].To, h.Plans[0].Plan.Goes = 60, []int{2, 4, 8, 10}
			slices.SortFunc(h.Serv.Runs, func(x, y impl.ServRun) int { return strings.Compare(x.Name, y.Name) })
			if cancel {
				h.Owes = append(h.Owes, impl.HouseOwe{Tick: 60, Cancel: true})
			}
		}
	}
	allHouses(t, []houseChange{{"a run of a time to come", true, coming(false)}, {"owed to a time to come", false, coming(true)}})
}

// As much is owed as can be: all times that may go on their beginnings, and all runs that may be there a cancelling.
func TestHousesThatOweMost(t *testing.T) {
	var plans []impl.HousePlan
	for _, name := range []string{"a", "b", "c"} {
		plans = append(plans, housePlan(name, 0, []int{1}, impl.PlanBoth, 1000, rule(1, 0, 0, 90)))
	}
	h := lives(t, housed(t, flowsOf(t, jobFlow), 1, 1, plans...), "look|tick|look")
	if runsOf(h) != "a0 a1 b0 b1 c0 c1" {
		t.Fatal(impl.HouseBoard(h))
	}
	h = changedHouse(t, h, func(h *impl.House) {
		for i := range h.Plans {
			h.Plans[i].Plan.Goes = nil
		}
		h.Serv.Now = 9
		for run := range h.Serv.Runs {
			h.Serv.Runs[run].Inbox = slices.Repeat(haps(cancel()), 30)
			h.Owes = append(h.Owes, impl.HouseOwe{Plan: run / 2, Tick: run % 2, Cancel: true})
		}
	})
	h = lives(t, h, "look")
	if len(h.Owes) != 30 || len(h.Serv.Runs) != 6 || !impl.HouseSafe(h) {
		t.Fatalf("%d: %s", len(h.Owes), impl.HouseBoard(h))
	}
	for i := range h.Plans {
		if fmt.Sprint(h.Plans[i].Plan.Goes) != "[2 3 4 5 6 7 8 9]" {
			t.Errorf("%v", h.Plans[i].Plan)
		}
	}
	again := lives(t, h, "look")
	if !sameHouse(again, h) {
		t.Error(impl.HouseBoard(again))
	}
	for _, one := range []impl.HouseOwe{h.Owes[0], h.Owes[29], {Plan: 0, Tick: 10}, {Plan: 2, Tick: 2, Cancel: true}} {
		x := copyHouse(h)
		x.Owes = append(x.Owes, one)
		noHouse(t, "one more", x)
	}
	rests(t, h, 12)
}

func TestHouseRun(t *testing.T) {
	for _, c := range []struct {
		plan string
		tick int
		want string
	}{
		{"p", 6, "p6"},
		{"p", 0, "p0"},
		{"p", 100000, "p100000"},
		{"pq", 0, "pq0"},
		{"pq", 100000, "pq100000"},
		{"az", 12345, "az12345"},
		{"p", 100001, ""},
		{"p", -1, ""},
		{"pq", 100001, ""},
		{"pq", -1, ""},
		{"p", math.MaxInt, ""},
		{"p", math.MinInt, ""},
		{"", 6, ""},
		{"", 0, ""},
		{"pqr", 6, ""},
		{"p1", 6, ""},
		{"1", 6, ""},
		{"1p", 6, ""},
		{"P", 6, ""},
		{"pQ", 6, ""},
		{"p ", 6, ""},
		{" ", 6, ""},
		{"-", 6, ""},
		{"`", 6, ""},
		{"{", 6, ""},
		{"é", 6, ""},
		{"\xff", 6, ""},
		{"p\x00", 6, ""},
		{"abcdefgh", 6, ""},
	} {
		if got := impl.HouseRun(c.plan, c.tick); got != c.want {
			t.Errorf("%q at %d: %q, asked for %q", c.plan, c.tick, got, c.want)
		}
	}
	for b := range 256 {
		name := string([]byte{byte(b)})
		want := ""
		if b >= 'a' && b <= 'z' {
			want = name + "7"
		}
		if got := impl.HouseRun(name, 7); got != want {
			t.Errorf("%q: %q", name, got)
		}
		if got := impl.HouseRun("q"+name, 7); (got != "") != (want != "") {
			t.Errorf("%q: %q", "q"+name, got)
		}
	}
}

func TestHouseTime(t *testing.T) {
	h := housed(t, flowsOf(t, jobFlow), 1, 1,
		housePlan("p", 0, []int{2}, impl.PlanSkip, 0, rule(4, 2, 0, 20), rule(1, 0, 100000, 100000)),
		housePlan("pq", 0, []int{2}, impl.PlanBoth, 0, rule(5, 0, 0, 100000, 15)),
		housePlan("z", 0, []int{2}, impl.PlanInstead, 0, rule(1000, 999, 0, 100000)))
	for _, c := range []struct {
		run         string
		place, tick int
	}{
		{"p2", 0, 2},
		{"p18", 0, 18},
		{"p100000", 0, 100000},
		{"pq0", 1, 0},
		{"pq5", 1, 5},
		{"pq100000", 1, 100000},
		{"z999", 2, 999},
		{"z99999", 2, 99999},
		// Not due.
		{"p0", -1, -1},
		{"p3", -1, -1},
		{"p22", -1, -1},
		{"p99999", -1, -1},
		{"pq15", -1, -1},
		{"pq6", -1, -1},
		{"p100001", -1, -1},
		{"pq100005", -1, -1},
		// Written in another way.
		{"p02", -1, -1},
		{"p002", -1, -1},
		{"pq00", -1, -1},
		{"pq05", -1, -1},
		{"p+2", -1, -1},
		{"p-2", -1, -1},
		{"pq-0", -1, -1},
		{"p 2", -1, -1},
		{"p2 ", -1, -1},
		{" p2", -1, -1},
		{"p2.", -1, -1},
		{"p0x2", -1, -1},
		{"p1_8", -1, -1},
		{"p2p", -1, -1},
		{"P2", -1, -1},
		{"p2\x00", -1, -1},
		{"p२", -1, -1},
		// No such plan, or no tick.
		{"q2", -1, -1},
		{"a2", -1, -1},
		{"pqr5", -1, -1},
		{"qp2", -1, -1},
		{"p", -1, -1},
		{"pq", -1, -1},
		{"z", -1, -1},
		{"own", -1, -1},
		{"2", -1, -1},
		{"", -1, -1},
		{"p18446744073709551618", -1, -1},
		{"p9223372036854775808", -1, -1},
		{"p" + strings.Repeat("0", 4000) + "2", -1, -1},
	} {
		for range 2 {
			place, tick, ok := impl.HouseTime(h, c.run)
			if place != c.place || tick != c.tick || ok != (c.place >= 0) {
				t.Errorf("%q: %d, %d, %v", c.run, place, tick, ok)
			}
		}
	}
	// What came and what is to come is told alike, with runs of that name and without.
	h = lives(t, h, "tick*2|look")
	for run, want := range map[string]string{"p2": "0 2 true", "p6": "0 6 true", "pq0": "1 0 true", "p3": "-1 -1 false"} {
		place, tick, ok := impl.HouseTime(h, run)
		if got := fmt.Sprint(place, tick, ok); got != want {
			t.Errorf("%s: %s", run, got)
		}
	}
	if place, tick, ok := impl.HouseTime(impl.House{Plans: h.Plans}, "p2"); place != -1 || tick != -1 || ok {
		t.Error("of a house that is not ok")
	}
}

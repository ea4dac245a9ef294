package tests

import (
	"fmt"
	"slices"
	"strconv"
	"strings"
	"testing"

	"loop.example/dunlin/impl"
)

const jobFlow = "workflow job n|do a work n undo back|sleep 3|return a"

// housePlan is a plan as a house is opened with.
func housePlan(name string, flow int, args []int, policy, window int, rules ...impl.CalRule) impl.HousePlan {
	return impl.HousePlan{Name: name, Flow: flow, Args: args, Plan: impl.Plan{Rules: rules, Policy: policy, Window: window}}
}

// flowsOf are flows whose lines are parted by strokes.
func flowsOf(t *testing.T, texts ...string) [][]impl.FlowLine {
	t.Helper()
	var list [][]impl.FlowLine
	for _, text := range texts {
		list = append(list, flow(t, text))
	}
	return list
}

func housed(t *testing.T, flows [][]impl.FlowLine, shards, workers int, plans ...impl.HousePlan) impl.House {
	t.Helper()
	h, ok := impl.HouseOpen(flows, shards, workers, plans)
	if !ok {
		t.Fatalf("not opened: %v", plans)
	}
	return h
}

// jobs is a house of one shard, one worker, and the plan `p` of a job with 2, every 4 at 2 from 0 to 20.
func jobs(t *testing.T, policy, window int) impl.House {
	t.Helper()
	return housed(t, flowsOf(t, jobFlow), 1, 1, housePlan("p", 0, []int{2}, policy, window, rule(4, 2, 0, 20)))
}

func evServe(e impl.ServEvent) impl.HouseEvent {
	return impl.HouseEvent{Kind: impl.HouseServes, Serv: e}
}

func evLook() impl.HouseEvent {
	return impl.HouseEvent{Kind: impl.HouseLooks}
}

func evKeep(run int) impl.HouseEvent {
	return impl.HouseEvent{Kind: impl.HouseKeeps, Run: run}
}

// houseEventBy is an event by its words: `look`, `keep RUN`, or those of a service.
func houseEventBy(t *testing.T, text string) impl.HouseEvent {
	t.Helper()
	switch words := strings.Fields(text); words[0] {
	case "look":
		return evLook()
	case "keep":
		run, _ := strconv.Atoi(words[1])
		return evKeep(run)
	}
	return evServe(evBy(t, text))
}

// happens, happensAlike, lives and rests are of houses.
var happens, happensAlike, lives, rests = houseDeeds.does, houseDeeds.doesAlike, houseDeeds.doesAll, houseDeeds.calms

var houseDeeds = deeds[impl.House, impl.HouseEvent]{
	do: impl.HouseDo, by: houseDoBy, calm: impl.HouseCalm, calmBy: houseCalmBy, most: 200,
	event: houseEventBy, ok: impl.HouseOk, okBy: houseOkBy, same: sameHouse, copy: copyHouse, shape: houseShape,
}

// houseBoards asks for a board whose lines are parted by strokes.
func houseBoards(t *testing.T, h impl.House, want string) {
	t.Helper()
	got := strings.ReplaceAll(strings.TrimSuffix(impl.HouseBoard(h), "\n"), "\n", "|")
	if got != want || impl.HouseBoard(h) != houseBoardBy(h) {
		t.Errorf("board %q, asked for %q, %q by hand", got, want, houseBoardBy(h))
	}
}

// boardHas asks that a board has these lines, one behind the other.
func boardHas(t *testing.T, h impl.House, want string) {
	t.Helper()
	got := strings.ReplaceAll("\n"+impl.HouseBoard(h), "\n", "|")
	if !strings.Contains(got, "|"+want+"|") || impl.HouseBoard(h) != houseBoardBy(h) {
		t.Errorf("board %q, asked for %q, %q by hand", got, want, houseBoardBy(h))
	}
}

// noHouse asks that a house is not ok, and that this is answered everywhere.
func noHouse(t *testing.T, what string, h impl.House) {
	t.Helper()
	if impl.HouseOk(h) || impl.HouseSafe(h) || impl.HouseBoard(h) != "" {
		t.Errorf("%s: ok", what)
	}
	for _, e := range []impl.HouseEvent{evServe(evTick()), evServe(evBegin("", 9)), evLook(), evKeep(0), evKeep(-1), {}, {Kind: 4}} {
		if x, code := impl.HouseDo(h, e); code != 1 || houseShape(x) != houseShape(impl.House{}) {
			t.Errorf("%s: %+v: code %d, %s", what, e, code, houseShape(x))
		}
	}
	for _, rounds := range []int{0, 1} {
		if x := impl.HouseCalm(h, rounds); houseShape(x) != houseShape(impl.House{}) {
			t.Errorf("%s: calm %s", what, houseShape(x))
		}
	}
	for _, name := range []string{"", "p2", "p6", "q1"} {
		if place, tick, ok := impl.HouseTime(h, name); place != -1 || tick != -1 || ok {
			t.Errorf("%s: %q is %d of %d, %v", what, name, tick, place, ok)
		}
	}
}

// houseShape is the whole of a house; an empty list and none are the same in it.
func houseShape(h impl.House) string {
	return fmt.Sprintf("%+v", h)
}

// sameHouse is quicker than two shapes.
func sameHouse(a, b impl.House) bool {
	return sameServ(a.Serv, b.Serv) && slices.Equal(a.Owes, b.Owes) && slices.Equal(a.Past, b.Past) && slices.EqualFunc(a.Plans, b.Plans, func(x, y impl.HousePlan) bool {
		return x.Name == y.Name && x.Flow == y.Flow && slices.Equal(x.Args, y.Args) && planShape(x.Plan) == planShape(y.Plan)
	})
}

func copyHouse(h impl.House) impl.House {
	h.Serv = copyServ(h.Serv)
	h.Owes, h.Past, h.Plans = slices.Clone(h.Owes), slices.Clone(h.Past), slices.Clone(h.Plans)
	for i, p := range h.Plans {
		h.Plans[i].Args, h.Plans[i].Plan = slices.Clone(p.Args), copyPlan(p.Plan)
	}
	return h
}

// changedHouse is a house of which something was changed; it stays ok.
func changedHouse(t *testing.T, h impl.House, change func(h *impl.House)) impl.House {
	t.Helper()
	h = copyHouse(h)
	change(&h)
	if !impl.HouseOk(h) || houseOkBy(h) != "" {
		t.Fatalf("not ok: %q by hand, %s", houseOkBy(h), houseShape(h))
	}
	return h
}

func roomyPlans(plans []impl.HousePlan) []impl.HousePlan {
	plans = slices.Clone(plans)
	for i, p := range plans {
		plans[i].Args, plans[i].Plan = roomy(p.Args, 77), roomyPlan(p.Plan)
	}
	return roomy(plans, impl.HousePlan{Name: "behind"})
}

func roomyHouse(h impl.House) impl.House {
	return impl.House{Serv: roomyServ(h.Serv), Plans: roomyPlans(h.Plans), Owes: roomy(h.Owes, impl.HouseOwe{Tick: 77}), Past: roomy(h.Past, impl.HousePast{Name: "behind"})}
}

func wholePlans(plans []impl.HousePlan) string {
	text := ""
	for _, p := range plans[:cap(plans)] {
		text += fmt.Sprint(p.Name, p.Flow, p.Args[:cap(p.Args)], wholePlan(p.Plan))
	}
	return text
}

// wholeHouse is a house with all that lies behind the ends of its lists.
func wholeHouse(h impl.House) string {
	return wholeServ(h.Serv) + wholePlans(h.Plans) + fmt.Sprint(h.Owes[:cap(h.Owes)], h.Past[:cap(h.Past)])
}

func spansOfPlans(what string, plans []impl.HousePlan) []span {
	all := spanOf(what, plans)
	for i, p := range plans[:cap(plans)] {
		all = append(all, spanOf(fmt.Sprint(what, i, ".Args"), p.Args)...)
		all = append(all, spansOfPlan(fmt.Sprint(what, i), p.Plan)...)
	}
	return all
}

func spansOfHouse(what string, h impl.House) []span {
	return slices.Concat(spansOfServ(what, h.Serv), spansOfPlans(what+".Plans", h.Plans), spanOf(what+".Owes", h.Owes), spanOf(what+".Past", h.Past))
}

// runsOf are the names of the runs of a house, with spaces between.
func runsOf(h impl.House) string {
	return strings.Join(runNames(h), " ")
}

func runNames(h impl.House) []string {
	var names []string
	for _, x := range h.Serv.Runs {
		names = append(names, x.Name)
	}
	return names
}

// owesOf is what a house owes, in words, with commas between.
func owesOf(h impl.House) string {
	var list []string
	for _, o := range h.Owes {
		list = append(list, oweBy(h, o))
	}
	return strings.Join(list, ", ")
}

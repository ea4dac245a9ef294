package tests

import (
	"fmt"
	"regexp"
	"slices"
	"sort"
	"strconv"
	"strings"

	"loop.example/dunlin/impl"
)

var (
	planForm   = regexp.MustCompile(`^[a-z]{1,2}$`)
	personForm = regexp.MustCompile(`^[a-z]+$`)
	timeForm   = regexp.MustCompile(`^([a-z]{1,2})(0|[1-9][0-9]{0,5})$`)
)

// houseOkBy is chapter 51 once more: what is not ok about a house; "", if it is.
func houseOkBy(h impl.House) string {
	if worldOkBy(h.Serv) != "" {
		return "service"
	}
	if len(h.Plans) > 3 || !rising(h.Plans, func(p impl.HousePlan) string { return p.Name }) {
		return "plans"
	}
	for _, p := range h.Plans {
		switch {
		case !planForm.MatchString(p.Name):
			return "name of a plan"
		case !planOkBy(p.Plan):
			return "plan"
		case p.Plan.Last > h.Serv.Now:
			return "last"
		case !between(0, len(h.Serv.Flows)-1, p.Flow):
			return "flow"
		case len(p.Args) != len(h.Serv.Flows[p.Flow][0].Args) || !within(p.Args...):
			return "args"
		}
	}
	if len(h.Past) > 60 || !rising(h.Past, func(p impl.HousePast) string { return p.Name }) {
		return "past"
	}
	for _, p := range h.Past {
		switch {
		case !nameForm.MatchString(p.Name):
			return "name of what is past"
		case slices.Contains(runNames(h), p.Name):
			return "past, and a run"
		case !between(1, 4, p.Stands) || !within(p.Result):
			return "how it stood"
		}
	}
	if len(h.Owes) > 30 {
		return "owes"
	}
	owed := map[impl.HouseOwe]bool{}
	for _, o := range h.Owes {
		if wrong := oweOkBy(h, o); wrong != "" {
			return wrong
		}
		if owed[o] {
			return "owed twice"
		}
		owed[o] = true
	}
	return ""
}

func oweOkBy(h impl.House, o impl.HouseOwe) string {
	if !between(0, len(h.Plans)-1, o.Plan) {
		return "whose it is owed"
	}
	p := h.Plans[o.Plan]
	if !dueBy(p.Plan.Rules, o.Tick) || o.Tick > p.Plan.Last {
		return "owed at another tick"
	}
	name := p.Name + strconv.Itoa(o.Tick)
	isRun := slices.Contains(runNames(h), name)
	switch {
	case o.Cancel && !isRun:
		return "owed a cancelling without a run"
	case !o.Cancel && (isRun || pastBy(h, name) >= 0):
		return "owed its beginning, and begun"
	case !o.Cancel && !slices.Contains(p.Plan.Goes, o.Tick):
		return "owed its beginning, and does not go on"
	}
	return ""
}

func pastBy(h impl.House, name string) int {
	return slices.IndexFunc(h.Past, func(p impl.HousePast) bool { return p.Name == name })
}

// timeBy goes by the form of a name, of a house that is ok.
func timeBy(h impl.House, name string) (int, int, bool) {
	if parts := timeForm.FindStringSubmatch(name); parts != nil {
		tick, _ := strconv.Atoi(parts[2])
		for i, p := range h.Plans {
			if p.Name == parts[1] && dueBy(p.Plan.Rules, tick) {
				return i, tick, true
			}
		}
	}
	return -1, -1, false
}

func oweBy(h impl.House, o impl.HouseOwe) string {
	return fmt.Sprintf("%s %s%d", map[bool]string{false: "begins", true: "cancels"}[o.Cancel], h.Plans[o.Plan].Name, o.Tick)
}

// houseBy is a house that is ok, while chapter 52 is done once more, by its words, and what its plans told.
type houseBy struct {
	impl.House
	told [][]impl.PlanTold
}

// houseDoBy is of a house that is ok.
func houseDoBy(h impl.House, e impl.HouseEvent) (impl.House, int) {
	switch e.Kind {
	case impl.HouseServes:
		h = copyHouse(h)
		name := e.Serv.Name
		if e.Serv.Kind == impl.ServBegins && (!personForm.MatchString(name) || pastBy(h, name) >= 0) {
			return h, 3
		}
		code := 0
		h.Serv, code = doBy(h.Serv, e.Serv)
		return h, code
	case impl.HouseLooks:
		return houseLookBy(h).House, 0
	case impl.HouseKeeps:
		return houseKeepBy(h, e.Run)
	}
	return copyHouse(h), 2
}

func houseLookBy(h impl.House) *houseBy {
	b := &houseBy{House: copyHouse(h), told: make([][]impl.PlanTold, len(h.Plans))}
	b.owed()
	for i, p := range h.Plans {
		for _, tick := range p.Plan.Goes {
			name := p.Name + strconv.Itoa(tick)
			run := slices.Index(runNames(b.House), name)
			if run >= 0 && b.Serv.Runs[run].Closed || pastBy(b.House, name) >= 0 {
				b.tells(i, planLook{ends: true, tick: tick, now: h.Serv.Now})
			}
		}
		b.tells(i, planLook{now: h.Serv.Now})
	}
	b.owed()
	return b
}

// owed does what is owed.
func (b *houseBy) owed() {
	var stay []impl.HouseOwe
	for _, o := range b.Owes {
		p := b.Plans[o.Plan]
		name := p.Name + strconv.Itoa(o.Tick)
		e := evBegin(name, p.Flow, p.Args...)
		if o.Cancel {
			e = evCancel(slices.Index(runNames(b.House), name))
		}
		w, code := doBy(b.Serv, e)
		b.Serv = w
		if code == 4 {
			stay = append(stay, o)
		}
	}
	b.Owes = stay
}

func (b *houseBy) tells(plan int, look planLook) {
	p := &b.Plans[plan]
	var told []impl.PlanTold
	p.Plan, told = look.by(p.Plan)
	b.told[plan] = append(b.told[plan], told...)
	for _, one := range told {
		name := p.Name + strconv.Itoa(one.Tick)
		isRun := slices.Contains(runNames(b.House), name)
		begins, cancels := impl.HouseOwe{Plan: plan, Tick: one.Tick}, impl.HouseOwe{Plan: plan, Tick: one.Tick, Cancel: true}
		switch {
		case one.What == impl.TimeBegan && !isRun && pastBy(b.House, name) < 0:
			b.Owes = append(b.Owes, begins)
		case (one.What == impl.TimeStopped || one.What == impl.TimeEnded) && slices.Contains(b.Owes, begins):
			b.Owes = slices.DeleteFunc(b.Owes, func(o impl.HouseOwe) bool { return o == begins })
		case one.What == impl.TimeStopped && isRun && !slices.Contains(b.Owes, cancels):
			b.Owes = append(b.Owes, cancels)
		}
	}
}

func houseKeepBy(h impl.House, run int) (impl.House, int) {
	h = copyHouse(h)
	if !between(0, len(h.Serv.Runs)-1, run) {
		return h, 5
	}
	x := h.Serv.Runs[run]
	if !x.Closed {
		return h, 6
	}
	for i, p := range h.Plans {
		for _, tick := range p.Plan.Goes {
			if x.Name == p.Name+strconv.Itoa(tick) {
				return h, 6
			}
		}
		for _, o := range h.Owes {
			if o.Plan == i && o.Cancel && x.Name == p.Name+strconv.Itoa(o.Tick) {
				return h, 6
			}
		}
	}
	if len(h.Past) == 60 {
		return h, 4
	}
	s := stateBy(h.Serv, run)
	h.Past = append(h.Past, impl.HousePast{Name: x.Name, Stands: s.Stands, Result: s.Result})
	sort.Slice(h.Past, func(i, j int) bool { return h.Past[i].Name < h.Past[j].Name })
	names := runNames(h)
	h.Serv.Runs = append(h.Serv.Runs[:run:run], h.Serv.Runs[run+1:]...)
	for i, k := range h.Serv.Workers {
		var tasks []impl.ServTask
		for _, task := range k.Tasks {
			if task.Run != run {
				task.Run = slices.Index(runNames(h), names[task.Run])
				tasks = append(tasks, task)
			}
		}
		h.Serv.Workers[i].Tasks = tasks
	}
	return h, 0
}

// houseSafeBy is chapter 52 once more, of a house that is ok.
func houseSafeBy(h impl.House) bool {
	if !safeBy(h.Serv) {
		return false
	}
	begun := map[string]int{}
	for _, name := range runNames(h) {
		begun[name]++
	}
	for _, p := range h.Past {
		begun[p.Name]++
	}
	for _, o := range h.Owes {
		if !o.Cancel {
			begun[h.Plans[o.Plan].Name+strconv.Itoa(o.Tick)]++
		}
	}
	for _, p := range h.Plans {
		for _, tick := range p.Plan.Goes {
			if begun[p.Name+strconv.Itoa(tick)] != 1 {
				return false
			}
		}
	}
	for _, name := range runNames(h) {
		if personForm.MatchString(name) {
			continue
		}
		plan, tick, ok := timeBy(h, name)
		if !ok || tick > h.Plans[plan].Plan.Last || slices.Contains(h.Plans[plan].Plan.Waits, tick) {
			return false
		}
	}
	return true
}

// houseCalmBy is a calm round of chapter 52 once more: one thing behind the other.
func houseCalmBy(h impl.House) impl.House {
	steps := houseCalmSteps(h)
	return steps[len(steps)-1]
}

// houseCalmSteps are the house behind the round of its service, behind the look, and behind each run that is put away or stays.
func houseCalmSteps(h impl.House) []impl.House {
	h = copyHouse(h)
	h.Serv = calmBy(h.Serv)
	steps := []impl.House{h, houseLookBy(h).House}
	for run := len(steps[1].Serv.Runs) - 1; run >= 0; run-- {
		kept, _ := houseKeepBy(steps[len(steps)-1], run)
		steps = append(steps, kept)
	}
	return steps
}

// houseBoardBy is chapter 52 once more, of a house that is ok.
func houseBoardBy(h impl.House) string {
	var b strings.Builder
	b.WriteString(boardBy(h.Serv))
	for _, p := range h.Plans {
		fmt.Fprintf(&b, "plan %s\n%s", p.Name, planBoardBy(p.Plan))
	}
	for _, o := range h.Owes {
		fmt.Fprintf(&b, "owes %s\n", oweBy(h, o))
	}
	for _, p := range h.Past {
		fmt.Fprintf(&b, "past %s %s %d\n", p.Name, strings.Fields("live done failed anew stopped")[p.Stands], p.Result)
	}
	return b.String()
}

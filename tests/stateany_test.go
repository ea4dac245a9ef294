package tests

import (
	"math/rand"
	"regexp"
	"slices"
	"sort"
	"strconv"
	"strings"
	"testing"

	"loop.example/dunlin/impl"
)

var (
	nameForm = regexp.MustCompile(`^[a-z][a-z0-9]{0,7}$`)
	keyForm  = regexp.MustCompile(`^[0-9.-]{1,23}$`)
)

func within(nums ...int) bool {
	return !slices.ContainsFunc(nums, func(n int) bool { return n < -9999 || n > 9999 })
}

// okByHand is chapter 11 once more, by another way: threads are gone through from the uppermost on.
func okByHand(lines []impl.FlowLine, s impl.RunState) bool {
	steps, made := impl.FlowMake(lines)
	if !made || s.Next < 1 || s.Next > 10000 || s.Stands < 0 || s.Stands > 4 || !within(s.Result) || !within(s.Args...) || len(s.Args) > 3 || len(s.Box) > 20 || len(s.Undo) > 40 {
		return false
	}
	for _, list := range [][]impl.RunVar{s.Vars, s.Marks} {
		if !sort.SliceIsSorted(list, func(i, j int) bool { return list[i].Name < list[j].Name }) || len(slices.CompactFunc(slices.Clone(list), func(a, b impl.RunVar) bool { return a.Name == b.Name })) < len(list) {
			return false
		}
	}
	for _, v := range slices.Concat(s.Vars, s.Marks, s.Box) {
		if !nameForm.MatchString(v.Name) || !within(v.Num) {
			return false
		}
	}
	for _, v := range s.Marks {
		if v.Num*v.Num != v.Num {
			return false
		}
	}
	return asksByHand(s) && standsByHand(steps, s)
}

func asksByHand(s impl.RunState) bool {
	last := 0
	for _, a := range s.Asks {
		key := a.Key
		if s.Ending && len(key) == 24 {
			key = key[1:]
			if a.Key[0] > '9' {
				return false
			}
		}
		if a.Id <= last || a.Id >= s.Next || !keyForm.MatchString(key) || !within(a.Args...) || len(a.Args) > 3 || a.Name != "" && !nameForm.MatchString(a.Name) {
			return false
		}
		last = a.Id
	}
	for _, a := range s.Undo {
		if a.Id < 1 || a.Id >= s.Next || !keyForm.MatchString(a.Key) || len(a.Args) != 1 || !within(a.Args...) || !nameForm.MatchString(a.Name) {
			return false
		}
	}
	return true
}

func standsByHand(steps []impl.FlowStep, s impl.RunState) bool {
	if s.Stands != impl.RunLive {
		return len(s.Threads)+len(s.Asks) == 0 && !s.Ending && (s.Stands == impl.RunAnew || len(s.Args) == 0)
	}
	if s.Ending {
		return len(s.Threads)+len(s.Args) == 0 && len(s.Asks) == 1 && s.Asks[0].Name != ""
	}
	if len(s.Args) > 0 || s.Result != 0 || len(s.Threads) > 16 || len(s.Threads) == 0 {
		return false
	}
	asks := map[int]impl.RunAsk{}
	for _, a := range s.Asks {
		asks[a.Id] = a
	}
	g := grown{steps: steps, state: s, left: s.Threads, asks: asks}
	return g.thread("", 0, len(steps)) && len(g.left) == 0 && len(g.asks) == 0
}

// grown takes threads and asks away as they fit; the threads come in the order in which a tree is gone through.
type grown struct {
	steps []impl.FlowStep
	state impl.RunState
	left  []impl.RunThread
	asks  map[int]impl.RunAsk
}

// thread takes the next thread, which must have this path, and be at a step from one to another, but in no fork within.
func (g *grown) thread(path string, from, to int) bool {
	if len(g.left) == 0 || g.left[0].Path != path {
		return false
	}
	th := g.left[0]
	g.left = g.left[1:]
	if th.At < from || th.At >= to || th.Made < 0 || th.Made >= g.state.Next || len(path) > 5 {
		return false
	}
	for at := from; at < to; at++ {
		if g.steps[at].Code == impl.StepFork {
			behind := g.steps[g.steps[at].B-1].A
			if th.At > at && th.At < behind {
				return false
			}
			at = behind - 1
		}
	}
	step := g.steps[th.At]
	if step.Code != impl.StepFork {
		return g.waits(th, step)
	}
	ahead := g.left
	if th.Wait != impl.WaitJoin || th.Ask != 0 || !g.thread(path+"0", step.A, step.B) {
		return false
	}
	second := g.left
	if !g.thread(path+"1", step.B, g.steps[step.B-1].A) {
		return false
	}
	return g.steps[ahead[0].At].Code != impl.StepJoin || g.steps[second[0].At].Code != impl.StepJoin
}

func (g *grown) waits(th impl.RunThread, step impl.FlowStep) bool {
	kinds := map[int]int{impl.StepDo: impl.WaitDo, impl.StepSleep: impl.WaitSleep, impl.StepGet: impl.WaitGet, impl.StepJoin: impl.WaitJoin}
	if kinds[step.Code] == 0 || th.Wait != kinds[step.Code] {
		return false
	}
	if step.Code == impl.StepJoin || step.Code == impl.StepGet && len(step.Args) == 0 {
		return th.Ask == 0
	}
	a, there := g.asks[th.Ask]
	delete(g.asks, th.Ask)
	name := ""
	if step.Code == impl.StepDo {
		name = step.Name
	}
	return there && a.Name == name && len(a.Args) == len(step.Args)
}

// spoil changes a thing or two of a state; often it is ok all the same.
func spoil(r *rand.Rand, s impl.RunState, steps int) impl.RunState {
	s = copyState(s)
	some := func(n int) int { return r.Intn(max(n, 1)) }
	num := []int{0, 1, -1, 2, 9999, 10000, -9999, -10000}[r.Intn(8)]
	id := 1 + some(s.Next+1)
	text := []string{"", "0", "1", "a", "go", "10", "x", "0.1-", strings.Repeat("1", 23), strings.Repeat("1", 24)}[r.Intn(10)]
	for range 1 + r.Intn(2) {
		switch r.Intn(16) {
		case 0:
			s.Vars = append(s.Vars, impl.RunVar{Name: text, Num: num})
		case 1:
			s.Marks = append(s.Marks, impl.RunVar{Name: text, Num: num})
		case 2:
			s.Box = append(s.Box, impl.RunVar{Name: text, Num: num})
		case 3:
			s.Next = []int{s.Next + 1, s.Next - 1, 0, 10000, 10001}[r.Intn(5)]
		case 4:
			s.Undo = append(s.Undo, someAsk(id, text, "un", num))
		case 5:
			s.Asks = append(s.Asks, someAsk(id, text, []string{"", "x"}[r.Intn(2)], num))
		case 6:
			s.Stands = r.Intn(7) - 1
		case 7:
			s.Ending = !s.Ending
		case 8:
			s.Result = num
		case 9:
			s.Args = append(s.Args, num)
		case 10, 11:
			if len(s.Threads) > 0 {
				spoilThread(r, &s.Threads[some(len(s.Threads))], num, id, steps)
			}
		case 12:
			if len(s.Asks) > 0 {
				spoilAsk(r, &s.Asks[some(len(s.Asks))], num, id, text)
			}
		case 13:
			if len(s.Undo) > 0 {
				spoilAsk(r, &s.Undo[some(len(s.Undo))], num, id, text)
			}
		case 14:
			if i := some(len(s.Threads)); len(s.Threads) > 0 {
				s.Threads = slices.Delete(s.Threads, i, i+1)
			}
		case 15:
			if i, j := some(len(s.Threads)), some(len(s.Threads)); len(s.Threads) > 0 {
				s.Threads[i].At, s.Threads[j].At = s.Threads[j].At, s.Threads[i].At
				s.Threads[i].Ask, s.Threads[j].Ask = s.Threads[j].Ask, s.Threads[i].Ask
				s.Threads[i].Wait, s.Threads[j].Wait = s.Threads[j].Wait, s.Threads[i].Wait
			}
		}
	}
	return s
}

func spoilThread(r *rand.Rand, th *impl.RunThread, num, id, steps int) {
	switch r.Intn(6) {
	case 0:
		th.Path += strconv.Itoa(r.Intn(2))
	case 1:
		th.At = r.Intn(steps+2) - 1
	case 2:
		th.Wait = r.Intn(6)
	case 3:
		th.Ask = id - 1
	case 4:
		th.Made = num
	case 5:
		th.Made = id - 1
	}
}

func spoilAsk(r *rand.Rand, a *impl.RunAsk, num, id int, text string) {
	switch r.Intn(5) {
	case 0:
		a.Id = id
	case 1:
		a.Key = text
	case 2:
		a.Name = text
	case 3:
		a.Args = append(a.Args, num)
	case 4:
		if len(a.Args) > 0 {
			a.Args[0] = num
		}
	}
}

// Of any state it is said rightly whether it is ok; what happens to one that is leaves it ok, and spoils none that is not.
func TestAnyStates(t *testing.T) {
	t.Parallel()
	r := rand.New(rand.NewSource(21))
	oks := 0
	for range 1500 {
		lines, args := livelyFlow(r)
		steps, _ := impl.FlowMake(lines)
		s := begun(t, lines, args...)
		for range r.Intn(20) {
			s, _ = impl.RunDo(lines, s, anyHap(r, s), nil, true)
		}
		if !okByHand(lines, s) {
			t.Fatalf("%s%+v", impl.FlowPrint(lines), s)
		}
		for range 20 {
			x := spoil(r, s, len(steps))
			ok := okByHand(lines, x)
			if impl.RunOk(lines, x) != ok || (impl.RunBoard(lines, x) != "") != ok {
				t.Fatalf("%s%+v: ok is not %v", impl.FlowPrint(lines), x, ok)
			}
			h := anyHap(r, x)
			next, code := impl.RunDo(lines, x, h, nil, r.Intn(2) == 0)
			if !ok {
				if code != 1 || shape(next) != shape(impl.RunState{}) {
					t.Fatalf("%s%+v behind %+v: %d, %+v", impl.FlowPrint(lines), h, x, code, next)
				}
				continue
			}
			oks++
			if !impl.RunOk(lines, next) || code == 1 || code != 0 && shape(next) != shape(x) {
				t.Fatalf("%s%+v behind %+v: %d, %+v", impl.FlowPrint(lines), h, x, code, next)
			}
		}
	}
	if oks < 3000 {
		t.Errorf("%d were ok", oks)
	}
}

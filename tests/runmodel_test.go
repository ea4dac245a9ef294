package tests

import (
	"fmt"
	"maps"
	"math/rand"
	"slices"
	"strconv"
	"strings"

	"loop.example/dunlin/impl"
)

// lively makes workflows that are right, and whose runs come far: all names have numbers from the first.
type lively struct {
	*rand.Rand
	rows  []string
	inner int // how many forks are around
}

// scope is what a part may give numbers to, what it may use, and which signals it may wait for.
type scope struct {
	gives, uses, signals []string
}

func (m *lively) add(words ...string) {
	m.rows = append(m.rows, strings.Join(words, " "))
}

func (m *lively) one(list []string) string {
	return list[m.Intn(len(list))]
}

func (m *lively) operand(s scope) string {
	switch m.Intn(12) {
	case 0:
		return m.one([]string{"9999", "-9999", "500", "-101"})
	case 1, 2, 3, 4:
		return strconv.Itoa(m.Intn(9) - 4)
	}
	return m.one(s.uses)
}

func (m *lively) operands(s scope, count int) string {
	text := ""
	for range count {
		text += " " + m.operand(s)
	}
	return text
}

func (m *lively) part(deep int, s scope) {
	for range m.Intn(4) {
		m.row(deep, s)
	}
}

func (m *lively) row(deep int, s scope) {
	kind := m.Intn(14)
	if deep == 0 {
		kind = m.Intn(8)
	}
	switch kind {
	case 0:
		m.add("let", m.one(s.gives), m.one([]string{"add", "sub", "add", "sub", "mul"})+m.operands(s, 2))
	case 1:
		m.add("let", m.one(s.gives), "is"+m.operands(s, 1))
	case 2, 3, 4:
		undo := ""
		if m.Intn(2) == 0 {
			undo = " undo un" + m.one([]string{"x", "y"})
		}
		m.add("do", m.one(s.gives), m.one([]string{"x", "y"})+m.operands(s, m.Intn(4))+undo)
	case 5:
		m.add("sleep" + m.operands(s, 1))
	case 6, 7:
		m.get(s)
	case 8, 9:
		m.choice(deep, s)
	case 10, 11:
		m.loop(deep, s)
	default:
		m.both(deep, s)
	}
}

func (m *lively) get(s scope) {
	if len(s.signals) == 0 {
		m.add("sleep 1")
		return
	}
	time := ""
	if m.Intn(3) > 0 {
		time = " for" + m.operands(s, 1)
	}
	m.add("get", m.one(s.gives), m.one(s.signals)+time)
}

func (m *lively) choice(deep int, s scope) {
	if m.Intn(2) == 0 {
		m.add("patch", m.one([]string{"p", "q", "r"}))
	} else {
		m.add("if"+m.operands(s, 1), m.one([]string{"less", "same", "more", "other"})+m.operands(s, 1))
	}
	m.part(deep-1, s)
	if m.inner == 0 && m.Intn(8) == 0 {
		m.add(m.one([]string{"return", "fail", "next"}) + m.operands(s, 1))
	}
	if m.Intn(2) == 0 {
		m.add("else")
		m.part(deep-1, s)
	}
	m.add("end")
}

// loop counts with a name that nothing else in it gives a number, but for some that go on too long.
func (m *lively) loop(deep int, s scope) {
	count := m.one(s.gives)
	inside := s
	inside.gives = without(s.gives, count)
	if len(inside.gives) == 0 {
		m.add("let", count, "is 0")
		return
	}
	m.add("let", count, "is 0")
	m.add("while", count, "less", m.one([]string{"1", "2", "3", "12", "90"}))
	m.part(deep-1, inside)
	m.add("let", count, "add", count, "1")
	m.add("end")
}

func (m *lively) both(deep int, s scope) {
	gives := slices.Clone(s.gives)
	m.Shuffle(len(gives), func(i, j int) { gives[i], gives[j] = gives[j], gives[i] })
	if len(gives) < 2 {
		m.add("sleep 2")
		return
	}
	cut := 1 + m.Intn(len(gives)-1)
	signals := m.Intn(len(s.signals) + 1)
	m.inner++
	m.add("both")
	m.part(deep-1, scope{gives[:cut], without(s.uses, gives[cut:]...), s.signals[:signals]})
	m.add("and")
	m.part(deep-1, scope{gives[cut:], without(s.uses, gives[:cut]...), s.signals[signals:]})
	m.add("end")
	m.inner--
}

func without(list []string, gone ...string) []string {
	return slices.DeleteFunc(slices.Clone(list), func(s string) bool { return slices.Contains(gone, s) })
}

// livelyFlow is a workflow that is right, and args for it.
func livelyFlow(r *rand.Rand) ([]impl.FlowLine, []int) {
	for {
		m := &lively{Rand: r}
		names := []string{"a", "b", "c", "d", "e", "f"}
		s := scope{names, names, []string{"go", "no"}}
		heads := r.Intn(4)
		m.add(append([]string{"workflow", "w"}, names[:heads]...)...)
		for _, name := range names[heads:] {
			m.add("let", name, "is", strconv.Itoa(r.Intn(5)))
		}
		for range 1 + r.Intn(5) {
			m.row(4, s)
		}
		m.add(m.one([]string{"return", "return", "return", "fail", "next"}) + m.operands(s, 1))
		lines, f := impl.FlowParse(strings.Join(m.rows, "\n"))
		if f.Code == 0 {
			args := make([]int, heads)
			for i := range args {
				args[i] = r.Intn(5)
			}
			return lines, args
		}
		if f.Code != impl.FlowTooLong && f.Code != impl.FlowTooDeep {
			panic(fmt.Sprint(f, "\n", strings.Join(m.rows, "\n")))
		}
	}
}

// node is a thread of the model: those of a fork hang below the one that waits there.
type node struct {
	at, wait, ask, made int
	parts               [2]*node
}

// model is a second reckoning of runs, by a tree of threads, step by step.
type model struct {
	steps   []impl.FlowStep
	nums    map[string]int
	marks   map[string]int
	patches map[string]bool // that are there; nil: all
	tree    *node
	left    int
	rest    impl.RunState // Asks, Next, Undo, Ending, Box, Stands, Result, Args
}

func modelOf(lines []impl.FlowLine, args []int, patches map[string]bool) *model {
	steps, _ := impl.FlowMake(lines)
	m := &model{steps: steps, nums: map[string]int{}, marks: map[string]int{}, patches: patches, tree: &node{}}
	m.rest.Next = 1
	for i, name := range lines[0].Args {
		m.nums[name] = args[i]
	}
	m.goOn()
	return m
}

func (m *model) over() bool {
	return m.rest.Stands != 0 || m.rest.Ending
}

func (m *model) goOn() {
	m.left = impl.RunMaxSteps
	for !m.over() {
		n, path, above := m.tree.free("", nil)
		if n == nil {
			return
		}
		step := m.steps[n.at]
		if m.left == 0 {
			m.fails(impl.RunBusy)
			return
		}
		if step.Code != impl.StepPatch && step.Code != impl.StepJump {
			m.left--
		}
		m.step(n, path, above, step)
	}
}

// free is the first that does not wait, with its path, and the one above it.
func (n *node) free(path string, above *node) (*node, string, *node) {
	if n.wait == 0 {
		return n, path, above
	}
	for i, part := range n.parts {
		if part == nil {
			continue
		}
		if f, p, a := part.free(path+strconv.Itoa(i), n); f != nil {
			return f, p, a
		}
	}
	return nil, "", nil
}

func (n *node) size() int {
	if n == nil {
		return 0
	}
	return 1 + n.parts[0].size() + n.parts[1].size()
}

func (m *model) num(operand string) int {
	if num, err := strconv.Atoi(operand); err == nil {
		return num
	}
	return m.nums[operand]
}

func (m *model) all(operands []string) []int {
	var nums []int
	for _, o := range operands {
		nums = append(nums, m.num(o))
	}
	return nums
}

func (m *model) step(n *node, path string, above *node, step impl.FlowStep) {
	v := append(m.all(step.Args), 0, 0)
	switch step.Code {
	case impl.StepLet:
		n.at++
		m.set(step.To, map[string]int{"is": v[0], "add": v[0] + v[1], "sub": v[0] - v[1], "mul": v[0] * v[1]}[step.Name])
	case impl.StepDo:
		m.ask(n, path, impl.WaitDo, step.Name, m.all(step.Args))
	case impl.StepSleep:
		m.ask(n, path, impl.WaitSleep, "", m.all(step.Args))
	case impl.StepGet:
		for i, x := range m.rest.Box {
			if x.Name == step.Name {
				m.rest.Box = slices.Concat(m.rest.Box[:i], m.rest.Box[i+1:])
				n.at++
				m.set(step.To, x.Num)
				return
			}
		}
		n.wait = impl.WaitGet
		if len(step.Args) > 0 {
			m.ask(n, path, impl.WaitGet, "", m.all(step.Args))
		}
	case impl.StepTest:
		n.at = step.B
		if map[string]bool{"less": v[0] < v[1], "same": v[0] == v[1], "more": v[0] > v[1], "other": v[0] != v[1]}[step.Name] {
			n.at = step.A
		}
	case impl.StepPatch:
		if _, said := m.marks[step.Name]; !said {
			m.marks[step.Name] = 0
			if m.patches == nil || m.patches[step.Name] {
				m.marks[step.Name] = 1
			}
		}
		n.at = []int{step.B, step.A}[m.marks[step.Name]]
	case impl.StepJump:
		n.at = step.A
	case impl.StepFork:
		n.wait = impl.WaitJoin
		n.parts = [2]*node{{at: step.A, made: n.made}, {at: step.B, made: n.made}}
		if m.tree.size() > impl.RunMaxThreads {
			m.fails(impl.RunBusy)
		}
	case impl.StepJoin:
		n.wait = impl.WaitJoin
		a, b := above.parts[0], above.parts[1]
		if a.wait == impl.WaitJoin && b.wait == impl.WaitJoin && m.steps[a.at].Code == impl.StepJoin && m.steps[b.at].Code == impl.StepJoin {
			*above = node{at: step.A, made: max(a.made, b.made)}
		}
	case impl.StepReturn:
		m.stands(impl.RunDone, v[0])
	case impl.StepFail:
		m.fails(v[0])
	case impl.StepNext:
		m.rest.Args = m.all(step.Args)
		m.stands(impl.RunAnew, 0)
	}
}

func (m *model) set(name string, num int) {
	if num*num > 9999*9999 {
		m.fails(impl.RunBad)
		return
	}
	m.nums[name] = num
}

func (m *model) ask(n *node, path string, wait int, name string, nums []int) {
	key := strings.TrimPrefix(path+"."+strconv.Itoa(n.made), ".")
	n.wait, n.ask = wait, m.rest.Next
	n.made++
	m.asks(key, name, nums)
}

func (m *model) asks(key, name string, nums []int) {
	if m.rest.Next == impl.RunMaxId+1 {
		m.stands(impl.RunFailed, impl.RunBusy)
		return
	}
	m.rest.Asks = append(m.rest.Asks, impl.RunAsk{Id: m.rest.Next, Key: key, Name: name, Args: nums})
	m.rest.Next++
}

func (m *model) stands(how, result int) {
	m.rest.Stands, m.rest.Result, m.rest.Ending, m.rest.Asks, m.tree = how, result, false, nil, nil
}

func (m *model) fails(num int) {
	m.rest.Result, m.rest.Ending, m.tree = num, true, nil
	m.undoes()
}

func (m *model) undoes() {
	m.rest.Asks = nil
	count := len(m.rest.Undo)
	if count == 0 {
		m.stands(map[bool]int{true: impl.RunStopped, false: impl.RunFailed}[m.rest.Result == impl.RunCancel], m.rest.Result)
		return
	}
	u := m.rest.Undo[count-1]
	m.rest.Undo = m.rest.Undo[:count-1]
	m.asks(u.Key+"-", u.Name, u.Args)
}

// threads are those of the tree, the upper ones first.
func (n *node) threads(path string) []impl.RunThread {
	if n == nil {
		return nil
	}
	list := []impl.RunThread{{Path: path, At: n.at, Wait: n.wait, Ask: n.ask, Made: n.made}}
	return slices.Concat(list, n.parts[0].threads(path+"0"), n.parts[1].threads(path+"1"))
}

func listed(nums map[string]int) []impl.RunVar {
	var list []impl.RunVar
	for _, name := range slices.Sorted(maps.Keys(nums)) {
		list = append(list, impl.RunVar{Name: name, Num: nums[name]})
	}
	return list
}

func (m *model) state() impl.RunState {
	s := m.rest
	s.Vars, s.Marks, s.Threads = listed(m.nums), listed(m.marks), m.tree.threads("")
	return s
}

// find is the first thread of which something holds.
func (n *node) find(holds func(n *node) bool) *node {
	if n == nil || holds(n) {
		return n
	}
	if first := n.parts[0].find(holds); first != nil {
		return first
	}
	return n.parts[1].find(holds)
}

func (m *model) happens(h impl.RunHap) int {
	if code := m.refuses(h); code != 0 {
		return code
	}
	switch {
	case h.Kind == impl.HapCancel && !m.rest.Ending:
		m.fails(impl.RunCancel)
	case h.Kind == impl.HapSignal:
		n := m.tree.find(func(n *node) bool { return n.wait == impl.WaitGet && m.steps[n.at].Name == h.Name })
		if n == nil {
			m.rest.Box = append(m.rest.Box, impl.RunVar{Name: h.Name, Num: h.Num})
		} else {
			m.wakes(n, h)
		}
	case h.Kind == impl.HapCancel:
	case m.rest.Ending:
		m.undoes()
	case h.Kind == impl.HapBroke:
		m.fails(h.Num)
	default:
		m.wakes(m.tree.find(func(n *node) bool { return n.ask == h.Id }), h)
	}
	m.goOn()
	return 0
}

func (m *model) wakes(n *node, h impl.RunHap) {
	step := m.steps[n.at]
	var ask impl.RunAsk
	for _, a := range m.rest.Asks {
		if a.Id == n.ask {
			ask = a
		}
	}
	m.rest.Asks = slices.DeleteFunc(slices.Clone(m.rest.Asks), func(a impl.RunAsk) bool { return a.Id == n.ask })
	n.at, n.wait, n.ask = n.at+1, 0, 0
	if step.Undo != "" {
		if len(m.rest.Undo) == impl.RunMaxUndo {
			m.fails(impl.RunBusy)
			return
		}
		m.rest.Undo = append(slices.Clone(m.rest.Undo), impl.RunAsk{Id: ask.Id, Key: ask.Key, Name: step.Undo, Args: []int{h.Num}})
	}
	num := h.Num
	if h.Kind == impl.HapFired {
		num = -1
	}
	if step.To != "" {
		m.nums[step.To] = num
	}
}

func (m *model) refuses(h impl.RunHap) int {
	if m.rest.Stands != impl.RunLive {
		return 2
	}
	named, timed, big := false, false, h.Num > 9999 || h.Num < -9999
	for _, a := range m.rest.Asks {
		named = named || a.Id == h.Id && a.Name != ""
		timed = timed || a.Id == h.Id && a.Name == ""
	}
	switch h.Kind {
	case impl.HapDone, impl.HapBroke:
		return map[bool]int{true: map[bool]int{true: 5}[big], false: 3}[named]
	case impl.HapFired:
		return map[bool]int{false: 3}[timed]
	case impl.HapSignal:
		if big || h.Name == "" || strings.ToLower(h.Name) != h.Name || len(h.Name) > 8 {
			return 5
		}
		return map[bool]int{true: 4}[len(m.rest.Box) == impl.RunMaxBox]
	case impl.HapCancel:
		return 0
	}
	return 5
}

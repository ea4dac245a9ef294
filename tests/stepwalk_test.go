package tests

import (
	"math/rand"
	"slices"
	"strconv"
	"strings"
	"testing"

	"loop.example/dunlin/impl"
)

// counted is the steps of right lines, reckoned otherwise than by filling in: each block is told at which place it stands,
// and how long its parts are is found by making them at place 0 first.
func counted(lines []impl.FlowLine, at int) []impl.FlowStep {
	var steps []impl.FlowStep
	for len(lines) > 0 {
		first, second, turned, rest := cutBlock(lines)
		steps = append(steps, countedLine(lines[0], first, second, turned, at+len(steps))...)
		lines = rest
	}
	return steps
}

// cutBlock cuts the block off that the first line opens: its parts, whether it has two, and what is behind it.
func cutBlock(lines []impl.FlowLine) (first, second []impl.FlowLine, turned bool, rest []impl.FlowLine) {
	deep, turn := 0, 0
	for i, l := range lines {
		switch l.Kind {
		case impl.FlowIf, impl.FlowPatch, impl.FlowWhile, impl.FlowBoth:
			deep++
		case impl.FlowElse, impl.FlowAnd:
			if deep == 1 {
				turn = i
			}
		case impl.FlowEnd:
			deep--
			if deep == 0 && turn > 0 {
				return lines[1:turn], lines[turn+1 : i], true, lines[i+1:]
			} else if deep == 0 {
				return lines[1:i], nil, false, lines[i+1:]
			}
		}
		if deep == 0 {
			return nil, nil, false, lines[1:]
		}
	}
	panic("a block is open")
}

func countedLine(l impl.FlowLine, first, second []impl.FlowLine, turned bool, at int) []impl.FlowStep {
	codes := map[int]int{impl.FlowLet: 1, impl.FlowDo: 2, impl.FlowSleep: 3, impl.FlowGet: 4, impl.FlowIf: 5, impl.FlowWhile: 5, impl.FlowPatch: 6, impl.FlowBoth: 8, impl.FlowReturn: 10, impl.FlowFail: 11, impl.FlowNext: 12}
	step := impl.FlowStep{Code: codes[l.Kind], To: l.To, Name: l.Name, Args: l.Args, Undo: l.Undo}
	if step.Code == 0 {
		panic("a line that makes no step")
	}
	n, m := len(counted(first, 0)), len(counted(second, 0))
	a := counted(first, at+1)
	step.A = at + 1
	switch {
	case l.Kind == impl.FlowWhile:
		step.B = at + n + 2
		return slices.Concat([]impl.FlowStep{step}, a, []impl.FlowStep{{Code: 7, A: at}})
	case l.Kind == impl.FlowBoth:
		step.B = at + n + 2
		join := []impl.FlowStep{{Code: 9, A: at + n + m + 3}}
		return slices.Concat([]impl.FlowStep{step}, a, join, counted(second, at+n+2), join)
	case turned:
		step.B = at + n + 2
		return slices.Concat([]impl.FlowStep{step}, a, []impl.FlowStep{{Code: 7, A: at + n + m + 2}}, counted(second, at+n+2))
	case l.Kind == impl.FlowIf || l.Kind == impl.FlowPatch:
		step.B = at + n + 1
		return slices.Concat([]impl.FlowStep{step}, a)
	}
	step.A = 0
	return []impl.FlowStep{step}
}

// standing is a moment of a workflow: where its threads stand, and which names have a number.
// A thread is told by the forks it came through, 0 or 1 for each.
type standing struct {
	threads map[string]int
	known   names
}

func (s standing) key() string {
	var list []string
	for path, place := range s.threads {
		list = append(list, path+"@"+strconv.Itoa(place))
	}
	slices.Sort(list)
	return strings.Join(list, " ") + "#" + strconv.Itoa(int(s.known))
}

func (s standing) with(known names, change func(threads map[string]int)) standing {
	next := standing{threads: map[string]int{}, known: s.known | known}
	for path, place := range s.threads {
		next.threads[path] = place
	}
	change(next.threads)
	return next
}

// moves are all moments that can come next, by the table of chapter 3 alone.
func (s standing) moves(steps []impl.FlowStep) []standing {
	var out []standing
	for path, place := range s.threads {
		if place < 0 {
			continue // waits at its join
		}
		step := steps[place]
		to := func(place int) {
			out = append(out, s.with(nameOf(step.To), func(threads map[string]int) { threads[path] = place }))
		}
		switch step.Code {
		case impl.StepTest, impl.StepPatch:
			to(step.A)
			to(step.B)
		case impl.StepJump:
			to(step.A)
		case impl.StepFork:
			out = append(out, s.with(0, func(threads map[string]int) {
				delete(threads, path)
				threads[path+"0"], threads[path+"1"] = step.A, step.B
			}))
		case impl.StepJoin:
			out = append(out, s.with(0, func(threads map[string]int) { join(threads, path, step.A) }))
		case impl.StepReturn, impl.StepFail, impl.StepNext:
		default:
			to(place + 1)
		}
	}
	return out
}

// join leaves a thread waiting (below 0 stands where it goes on), or goes on in place of both.
func join(threads map[string]int, path string, to int) {
	last := len(path) - 1
	other := path[:last] + string('0'+'1'-path[last])
	if place, ok := threads[other]; ok && place == -1-to {
		delete(threads, path)
		delete(threads, other)
		threads[path[:last]] = to
		return
	}
	threads[path] = -1 - to
}

// wentThrough goes through all moments of steps, and tells which steps were come to; false, if they are too many.
func wentThrough(t *testing.T, text string, args []string, steps []impl.FlowStep) ([]bool, bool) {
	t.Helper()
	start := standing{threads: map[string]int{"": 0}}
	for _, a := range args {
		start.known |= nameOf(a)
	}
	come := make([]bool, len(steps))
	seen := map[string]bool{start.key(): true}
	work := []standing{start}
	for len(work) > 0 {
		s := work[len(work)-1]
		work = work[:len(work)-1]
		for _, place := range s.threads {
			if place < 0 {
				place = -1 - place
			}
			if place >= len(steps) {
				t.Fatalf("%s\none comes to place %d of %d steps", text, place, len(steps))
			}
		}
		for path, place := range s.threads {
			if place >= 0 {
				come[place] = true
				heldTo(t, text, steps, place, s.known, path)
			}
		}
		for _, next := range s.moves(steps) {
			if key := next.key(); !seen[key] {
				seen[key] = true
				work = append(work, next)
			}
		}
		if len(seen) > 20000 {
			return come, false
		}
	}
	return come, true
}

// heldTo asks what a step promises when a thread stands at it.
func heldTo(t *testing.T, text string, steps []impl.FlowStep, place int, known names, path string) {
	t.Helper()
	step := steps[place]
	for _, a := range step.Args {
		if nameOf(a)&^known != 0 {
			t.Fatalf("%s\nstep %d uses %s, which has no number", text, place, a)
		}
	}
	if (step.Code == impl.StepJoin || step.Code >= impl.StepReturn) && (path == "") != (step.Code >= impl.StepReturn) {
		t.Fatalf("%s\nstep %d is come to by the thread %q", text, place, path)
	}
}

// Promises 1 and 8, of workflows that are made up, and that steps are what chapter 3 says.
func TestStepsAreGoneThrough(t *testing.T) {
	t.Parallel()
	r := rand.New(rand.NewSource(11))
	right, forks, dead := 0, 0, 0
	for range 40000 {
		text := made(r)
		lines := linesOf(t, text)
		steps, ok := impl.FlowMake(lines)
		if !ok {
			continue
		}
		right++
		if want := counted(lines[1:], 0); !sameSteps(steps, want) {
			t.Fatalf("%s\n%v, asked for\n%v", text, steps, want)
		}
		come, all := wentThrough(t, text, lines[0].Args, steps)
		for place, step := range steps {
			if step.Code == impl.StepFork {
				forks++
			}
			if come[place] || !all {
				continue
			}
			dead++
			if step.Code != impl.StepJump || place == 0 || steps[place-1].Code < impl.StepReturn {
				t.Fatalf("%s\nstep %d is never come to", text, place)
			}
		}
	}
	if right < 5000 || forks < 500 || dead < 100 {
		t.Errorf("%d were right, with %d forks and %d jumps that are never come to", right, forks, dead)
	}
}

// joinOf is the place of the join that ends the part of a fork that begins at a place.
func joinOf(steps []impl.FlowStep, place int) int {
	open := 0
	for {
		switch steps[place].Code {
		case impl.StepFork:
			open += 2
		case impl.StepJoin:
			if open == 0 {
				return place
			}
			open--
		}
		place++
	}
}

// touches says whether one step gives a number to a name that the other one gives one or uses, or both wait for one signal.
func touches(a, b impl.FlowStep) bool {
	gives := func(x, y impl.FlowStep) bool {
		return x.To != "" && (x.To == y.To || slices.Contains(y.Args, x.To))
	}
	return gives(a, b) || gives(b, a) || a.Code == impl.StepGet && b.Code == impl.StepGet && a.Name == b.Name
}

func givesAny(steps []impl.FlowStep) bool {
	return slices.ContainsFunc(steps, func(s impl.FlowStep) bool { return s.To != "" })
}

// apart asks promise 5 of all forks of steps, and tells how many there are in which both parts give a number to a name.
func apart(t *testing.T, text string, steps []impl.FlowStep) int {
	t.Helper()
	busy := 0
	for place, step := range steps {
		if step.Code != impl.StepFork {
			continue
		}
		first, second := joinOf(steps, step.A), joinOf(steps, step.B)
		if step.A != place+1 || step.B != first+1 || steps[first].A != second+1 || steps[second].A != second+1 {
			t.Fatalf("%s\nthe parts of the fork at %d are not one behind the other", text, place)
		}
		for _, a := range steps[step.A:first] {
			for _, b := range steps[step.B:second] {
				if touches(a, b) {
					t.Fatalf("%s\nthe parts of the fork at %d touch", text, place)
				}
			}
		}
		if givesAny(steps[step.A:first]) && givesAny(steps[step.B:second]) {
			busy++
		}
	}
	return busy
}

// Promise 5, in the steps, and in the lines: of two parts that touch, none is made.
func TestBranchesAreApart(t *testing.T) {
	t.Parallel()
	r := rand.New(rand.NewSource(12))
	busy, refused := 0, 0
	for range 40000 {
		text := made(r)
		lines := linesOf(t, text)
		steps, ok := impl.FlowMake(lines)
		if ok {
			busy += apart(t, text, steps)
		} else if impl.FlowCheck(lines).Code == impl.FlowTwice {
			refused++
		}
	}
	if busy < 50 || refused < 200 {
		t.Errorf("%d forks gave numbers in both parts, %d workflows were refused", busy, refused)
	}
	ways := []struct {
		first, second string
		apart         bool
	}{
		{"let a is 1", "let b is 1", true},
		{"let a is 1", "let a is 1", false},
		{"let a is 1", "sleep a", false},
		{"sleep a", "let a is 1", false},
		{"sleep a", "sleep a", true},
		{"sleep a", "do c pay a", true},
		{"do c pay a", "do c pay", false},
		{"do c pay a undo a", "let d is a", true},
		{"do c pay", "do d pay c", false},
		{"get c go", "get d go", false},
		{"get c go", "get d stop", true},
		{"get c go", "get c stop", false},
		{"get c go", "do go go", true},
		{"get c d", "let d is 1", true},
		{"if a less 1 | else | get c go | end", "while b less 1 | get d go | end", false},
		{"both | get c go | and | get d stop | end", "both | sleep 1 | and | get e stop | end", false},
		{"both | get c go | and | let d is a | end", "both | sleep b | and | let e is a | end", true},
		{"patch a | end", "let a is 1", true},
	}
	for _, w := range ways {
		lines := linesOf(t, parted("workflow w a b d | let c is 1 | both | "+w.first+" | and | "+w.second+" | end | return a"))
		steps, ok := impl.FlowMake(lines)
		if ok != w.apart || !ok && impl.FlowCheck(lines) != (impl.FlowFault{Line: 4 + strings.Count(w.first, "|") + 1, Code: impl.FlowTwice}) {
			t.Errorf("%q and %q: %v %+v", w.first, w.second, ok, impl.FlowCheck(lines))
		}
		apart(t, w.first+" and "+w.second, steps)
	}
}

// Promises 6 and 7, of lines of any parts: steps are made just if nothing is wrong, each is shown on a line of its own.
func TestStepsAreShown(t *testing.T) {
	t.Parallel()
	r := rand.New(rand.NewSource(13))
	words := []string{"", "a", "undo", "1", "10000", "a b", "\n", "\xff"}
	right, wrong := 0, 0
	for range 40000 {
		lines := linesOf(t, made(r))
		if r.Intn(3) == 0 {
			at := r.Intn(len(lines))
			word := words[r.Intn(len(words))]
			switch r.Intn(6) {
			case 0:
				lines[at].Kind = r.Intn(18) - 1
			case 1:
				lines[at].To = word
			case 2:
				lines[at].Name = word
			case 3:
				lines[at].Args = append(slices.Clone(lines[at].Args), word)
			case 4:
				lines[at].Undo = word
			case 5:
				lines = slices.Delete(lines, at, at+1)
			}
		}
		if shownOf(t, lines) {
			right++
		} else {
			wrong++
		}
	}
	if right < 5000 || wrong < 5000 {
		t.Errorf("%d were right, %d wrong", right, wrong)
	}
}

// shownOf asks promises 6 and 7 of any lines, and tells whether they are right.
func shownOf(t *testing.T, lines []impl.FlowLine) bool {
	t.Helper()
	steps, ok := impl.FlowMake(lines)
	text := impl.FlowShow(lines)
	if ok != (impl.FlowCheck(lines).Code == 0) || !ok && (len(steps) != 0 || text != "") {
		t.Fatalf("%v: %v %v %q", lines, steps, ok, text)
	}
	if !ok {
		return false
	}
	if !strings.HasSuffix(text, "\n") {
		t.Fatalf("%v: %q", lines, text)
	}
	rows := strings.Split(strings.TrimSuffix(text, "\n"), "\n")
	if len(rows) != len(steps) {
		t.Fatalf("%v: %d steps, shown on %d lines", lines, len(steps), len(rows))
	}
	for place, row := range rows {
		if row != rowOf(place, steps[place]) {
			t.Fatalf("%v: %q, asked for %q", lines, row, rowOf(place, steps[place]))
		}
	}
	return true
}

// rowOf is how chapter 3 says that a step is shown.
func rowOf(place int, s impl.FlowStep) string {
	row := strconv.Itoa(place) + " " + strings.Fields("- let do sleep get test patch jump fork join return fail next")[s.Code]
	for _, word := range slices.Concat([]string{s.To, s.Name}, s.Args) {
		if word != "" {
			row += " " + word
		}
	}
	if s.Undo != "" {
		row += " undo " + s.Undo
	}
	switch s.Code {
	case 5, 6, 8:
		row += " to " + strconv.Itoa(s.A) + " " + strconv.Itoa(s.B)
	case 7, 9:
		row += " to " + strconv.Itoa(s.A)
	}
	return row
}

func FuzzFlowMake(f *testing.F) {
	f.Add("workflow w n\ndo a pay n undo back\nreturn a")
	f.Add("workflow w\nboth\nget a go\nand\nget b stop\nend\nif a less b\nfail 1\nelse\nnext\nend")
	f.Fuzz(func(t *testing.T, text string) {
		lines, fault := impl.FlowParse(text)
		if shownOf(t, lines) != (fault.Code == 0) {
			t.Fatalf("%q: %+v", text, fault)
		}
		if fault.Code == 0 {
			steps, _ := impl.FlowMake(lines)
			apart(t, text, steps)
		}
	})
}

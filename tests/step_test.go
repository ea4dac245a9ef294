package tests

import (
	"slices"
	"strconv"
	"strings"
	"testing"

	"loop.example/dunlin/impl"
)

func sameSteps(a, b []impl.FlowStep) bool {
	return slices.EqualFunc(a, b, func(x, y impl.FlowStep) bool {
		args := slices.Equal(x.Args, y.Args)
		return args && x.Code == y.Code && x.To == y.To && x.Name == y.Name && x.Undo == y.Undo && x.A == y.A && x.B == y.B
	})
}

// shows asks that a workflow, the lines of which are parted by strokes, has these steps, parted alike.
func shows(t *testing.T, flow, steps string) {
	t.Helper()
	lines := linesOf(t, parted(flow))
	want := parted(steps) + "\n"
	if got := impl.FlowShow(lines); got != want {
		t.Errorf("%s\nhas the steps\n%sasked for\n%s", parted(flow), got, want)
	}
	made, ok := impl.FlowMake(lines)
	if !ok || len(made) != strings.Count(want, "\n") {
		t.Errorf("%s: %v %v", flow, made, ok)
	}
}

func parted(text string) string {
	list := strings.Split(text, "|")
	for i := range list {
		list[i] = strings.TrimSpace(list[i])
	}
	return rows(list...)
}

// notMade asks that lines have this Code, no steps, and nothing to show.
func notMade(t *testing.T, lines []impl.FlowLine, code int) {
	t.Helper()
	if f := impl.FlowCheck(lines); f.Code != code {
		t.Errorf("%v: code %d, asked for %d", lines, f.Code, code)
	}
	steps, ok := impl.FlowMake(lines)
	if ok || len(steps) != 0 || impl.FlowShow(lines) != "" {
		t.Errorf("%v: %v %v %q", lines, steps, ok, impl.FlowShow(lines))
	}
}

func TestExampleSteps(t *testing.T) {
	shows(t, `workflow trip n | do car book n undo unbook
		| both | do hotel book n undo unbook | get ok go for 30
		| and | patch quick | do mail send n | else | sleep 5 | do mail send n | end | end
		| if ok less 0 | fail 7 | end
		| let i is 0 | while i less n | do x work i | let i add i 1 | end
		| return hotel`,
		`0 do car book n undo unbook
		| 1 fork to 2 5
		| 2 do hotel book n undo unbook
		| 3 get ok go 30
		| 4 join to 11
		| 5 patch quick to 6 8
		| 6 do mail send n
		| 7 jump to 10
		| 8 sleep 5
		| 9 do mail send n
		| 10 join to 11
		| 11 test less ok 0 to 12 13
		| 12 fail 7
		| 13 let i is 0
		| 14 test less i n to 15 18
		| 15 do x work i
		| 16 let i add i 1
		| 17 jump to 14
		| 18 return hotel`)
}

// Every field of every kind of step: the line's To, Name, Args and Undo, and nothing else.
func TestFieldsOfSteps(t *testing.T) {
	lines := linesOf(t, rows("workflow w n m", "let a mul n -3", "do b pay n a 7 undo back", "do c pay", "sleep b", "get d go", "get e stop for 9",
		"patch new", "end", "both", "and", "end", "while a more b", "end", "if c other d", "return 1", "else", "if d same e", "fail e", "end", "end", "next n m a"))
	steps, ok := impl.FlowMake(lines)
	want := []impl.FlowStep{
		{Code: 1, To: "a", Name: "mul", Args: []string{"n", "-3"}},
		{Code: 2, To: "b", Name: "pay", Args: []string{"n", "a", "7"}, Undo: "back"},
		{Code: 2, To: "c", Name: "pay"},
		{Code: 3, Args: []string{"b"}},
		{Code: 4, To: "d", Name: "go"},
		{Code: 4, To: "e", Name: "stop", Args: []string{"9"}},
		{Code: 6, Name: "new", A: 7, B: 7},
		{Code: 8, A: 8, B: 9},
		{Code: 9, A: 10},
		{Code: 9, A: 10},
		{Code: 5, Name: "more", Args: []string{"a", "b"}, A: 11, B: 12},
		{Code: 7, A: 10},
		{Code: 5, Name: "other", Args: []string{"c", "d"}, A: 13, B: 15},
		{Code: 10, Args: []string{"1"}},
		{Code: 7, A: 17},
		{Code: 5, Name: "same", Args: []string{"d", "e"}, A: 16, B: 17},
		{Code: 11, Args: []string{"e"}},
		{Code: 12, Args: []string{"n", "m", "a"}},
	}
	if !ok || !sameSteps(steps, want) {
		t.Errorf("%v\n%+v, asked for\n%+v", ok, steps, want)
	}
	shown := parted(`0 let a mul n -3 | 1 do b pay n a 7 undo back | 2 do c pay | 3 sleep b | 4 get d go | 5 get e stop 9
		| 6 patch new to 7 7 | 7 fork to 8 9 | 8 join to 10 | 9 join to 10 | 10 test more a b to 11 12 | 11 jump to 10
		| 12 test other c d to 13 15 | 13 return 1 | 14 jump to 17 | 15 test same d e to 16 17 | 16 fail e | 17 next n m a`) + "\n"
	if got := impl.FlowShow(lines); got != shown {
		t.Errorf("%s", got)
	}
}

// A step's word is shown, whatever names that are words of steps, too.
func TestNamesThatAreWords(t *testing.T) {
	shows(t, "workflow to undo | do to undo undo undo to | let undo is to | get join fork for undo | return join",
		"0 do to undo undo undo to | 1 let undo is to | 2 get join fork undo | 3 return join")
	shows(t, "workflow w | do undo x undo y | do x undo undo | next", "0 do undo x undo y | 1 do x undo undo | 2 next")
}

func TestEmptyParts(t *testing.T) {
	shows(t, "workflow w | if 1 less 2 | end | return 1", "0 test less 1 2 to 1 1 | 1 return 1")
	shows(t, "workflow w | if 1 less 2 | else | end | return 1", "0 test less 1 2 to 1 2 | 1 jump to 2 | 2 return 1")
	shows(t, "workflow w | if 1 less 2 | sleep 1 | else | end | return 1", "0 test less 1 2 to 1 3 | 1 sleep 1 | 2 jump to 3 | 3 return 1")
	shows(t, "workflow w | if 1 less 2 | else | sleep 1 | end | return 1", "0 test less 1 2 to 1 2 | 1 jump to 3 | 2 sleep 1 | 3 return 1")
	shows(t, "workflow w | patch p | end | return 1", "0 patch p to 1 1 | 1 return 1")
	shows(t, "workflow w | patch p | else | end | return 1", "0 patch p to 1 2 | 1 jump to 2 | 2 return 1")
	shows(t, "workflow w | while 1 same 1 | end | return 1", "0 test same 1 1 to 1 2 | 1 jump to 0 | 2 return 1")
	shows(t, "workflow w | both | and | end | return 1", "0 fork to 1 2 | 1 join to 3 | 2 join to 3 | 3 return 1")
	shows(t, "workflow w | both | sleep 1 | and | end | return 1", "0 fork to 1 3 | 1 sleep 1 | 2 join to 4 | 3 join to 4 | 4 return 1")
	shows(t, "workflow w | both | and | sleep 1 | end | return 1", "0 fork to 1 2 | 1 join to 4 | 2 sleep 1 | 3 join to 4 | 4 return 1")
	shows(t, "workflow w | next", "0 next")
}

// A part that ends the workflow has its jump all the same, and the last line of all may be the end of a block.
func TestPartsThatEndTheWorkflow(t *testing.T) {
	for _, end := range []string{"return 7", "fail 7", "next 7", "next"} {
		for head, step := range map[string]string{"if n less 1": "test less n 1", "patch p": "patch p"} {
			in := func(s string) string { return strings.NewReplacer("END", end, "HEAD", head, "STEP", step).Replace(s) }
			shows(t, in("workflow w n | HEAD | END | end | END"), in("0 STEP to 1 2 | 1 END | 2 END"))
			shows(t, in("workflow w n | HEAD | END | else | sleep 1 | end | END"), in("0 STEP to 1 3 | 1 END | 2 jump to 4 | 3 sleep 1 | 4 END"))
			shows(t, in("workflow w n | HEAD | END | else | end | END"), in("0 STEP to 1 3 | 1 END | 2 jump to 3 | 3 END"))
			shows(t, in("workflow w n | HEAD | sleep 1 | else | END | end | END"), in("0 STEP to 1 3 | 1 sleep 1 | 2 jump to 4 | 3 END | 4 END"))
			shows(t, in("workflow w n | HEAD | else | END | end | END"), in("0 STEP to 1 2 | 1 jump to 3 | 2 END | 3 END"))
			shows(t, in("workflow w n | HEAD | END | else | END | end"), in("0 STEP to 1 3 | 1 END | 2 jump to 4 | 3 END"))
			shows(t, in("workflow w n | HEAD | HEAD | END | else | END | end | else | sleep 1 | END | end"),
				in("0 STEP to 1 6 | 1 STEP to 2 4 | 2 END | 3 jump to 5 | 4 END | 5 jump to 8 | 6 sleep 1 | 7 END"))
			shows(t, in("workflow w n | while n more 2 | HEAD | END | else | END | end | end | END"),
				in("0 test more n 2 to 1 6 | 1 STEP to 2 4 | 2 END | 3 jump to 5 | 4 END | 5 jump to 0 | 6 END"))
		}
		in := func(s string) string { return strings.ReplaceAll(s, "END", end) }
		shows(t, in("workflow w n | while n more 2 | END | end | END"), in("0 test more n 2 to 1 3 | 1 END | 2 jump to 0 | 3 END"))
	}
}

// What follows the last line of a block is what closes it, or what comes behind that.
func TestBlocksThatAreTheLastOfABlock(t *testing.T) {
	inner := []struct{ lines, steps string }{
		{"if 1 less 2 | sleep 1 | end", "test less 1 2 to a e | a: sleep 1 | e:"},
		{"if 1 less 2 | sleep 1 | else | sleep 2 | end", "test less 1 2 to a b | a: sleep 1 | jump to e | b: sleep 2 | e:"},
		{"patch p | sleep 1 | end", "patch p to a e | a: sleep 1 | e:"},
		{"patch p | else | sleep 2 | end", "patch p to a b | a: jump to e | b: sleep 2 | e:"},
		{"while 1 less 2 | sleep 1 | end", "s: test less 1 2 to a e | a: sleep 1 | jump to s | e:"},
		{"both | sleep 1 | and | sleep 2 | end", "fork to a b | a: sleep 1 | join to e | b: sleep 2 | join to e | e:"},
	}
	outer := []struct{ lines, steps string }{
		{"sleep 8 | if 3 less 4 | IN | end", "sleep 8 | test less 3 4 to A E | A: IN E: return 1"},
		{"if 3 less 4 | IN | else | sleep 9 | end", "test less 3 4 to A B | A: IN jump to E | B: sleep 9 | E: return 1"},
		{"patch q | sleep 9 | else | IN | end", "patch q to A B | A: sleep 9 | jump to E | B: IN E: return 1"},
		{"while 3 less 4 | IN | end", "S: test less 3 4 to A E | A: IN jump to S | E: return 1"},
		{"both | IN | and | sleep 9 | end", "fork to A B | A: IN join to E | B: sleep 9 | join to E | E: return 1"},
		{"both | sleep 9 | and | IN | end", "fork to A B | A: sleep 9 | join to E | B: IN join to E | E: return 1"},
	}
	for _, a := range outer {
		for _, b := range inner {
			flow := "workflow w | " + strings.Replace(a.lines, "IN", b.lines, 1) + " | return 1"
			shows(t, flow, placed(strings.Replace(a.steps, "IN", b.steps, 1)))
		}
	}
}

// placed counts steps, and puts places for the marks behind "to"; a mark with a colon stands ahead of its step.
func placed(text string) string {
	list := strings.Split(text, "|")
	marks := map[string]string{}
	for i, step := range list {
		words := strings.Fields(step)
		for strings.HasSuffix(words[0], ":") {
			marks[strings.TrimSuffix(words[0], ":")] = strconv.Itoa(i)
			words = words[1:]
		}
		list[i] = strings.Join(words, " ")
	}
	for i, step := range list {
		words := strings.Fields(step)
		if to := slices.Index(words, "to"); to >= 0 {
			for j := to + 1; j < len(words); j++ {
				words[j] = marks[words[j]]
			}
		}
		list[i] = strconv.Itoa(i) + " " + strings.Join(words, " ")
	}
	return strings.Join(list, "|")
}

// Blocks FlowMaxDeep deep, and one more; FlowMaxLines lines, and one more.
func TestStepsAtTheLimits(t *testing.T) {
	deep := func(n int) []impl.FlowLine {
		return linesOf(t, rows("workflow w", nested(n, "sleep 1", "if 1 less 2", "patch p", "while 1 less 2", "both"), "return 1"))
	}
	want := parted(`0 test less 1 2 to 1 9 | 1 patch p to 2 9 | 2 test less 1 2 to 3 9 | 3 fork to 4 7
		| 4 test less 1 2 to 5 6 | 5 sleep 1 | 6 join to 8 | 7 join to 8 | 8 jump to 2 | 9 return 1`) + "\n"
	if got := impl.FlowShow(deep(impl.FlowMaxDeep)); got != want {
		t.Errorf("%s", got)
	}
	notMade(t, deep(impl.FlowMaxDeep+1), impl.FlowTooDeep)

	long := linesOf(t, rows("workflow w", strings.Repeat("sleep 1\n", impl.FlowMaxLines-2)+"return 1"))
	steps, ok := impl.FlowMake(long)
	if !ok || len(steps) != impl.FlowMaxLines-1 || !strings.HasSuffix(impl.FlowShow(long), "57 sleep 1\n58 return 1\n") {
		t.Errorf("%v %v", ok, steps)
	}
	notMade(t, slices.Insert(long, 1, long[1]), impl.FlowTooLong)

	// Each of these lines but the head makes a step, which is as many as there can be.
	forks := linesOf(t, rows("workflow w", strings.Repeat("both\nand\nend\n", 19)+"return 1"))
	steps, ok = impl.FlowMake(forks)
	if !ok || len(forks) != 59 || len(steps) != 58 || steps[54].Code != impl.StepFork || steps[54].B != 56 || steps[55].A != 57 || steps[56].A != 57 {
		t.Errorf("%v %v", ok, steps)
	}
}

// Promise 7, of each Code.
func TestWhatIsWrongHasNoSteps(t *testing.T) {
	notMade(t, nil, impl.FlowUneven)
	notMade(t, []impl.FlowLine{}, impl.FlowUneven)
	for code, flows := range map[int][]string{
		impl.FlowUneven:   {"return 1", "workflow w | workflow w | return 1", "workflow w | else | return 1", "workflow w | if 1 less 2 | return 1", "workflow w | both | end | return 1", "workflow w | end", "workflow w | both | return 1 | and | end | return 1"},
		impl.FlowTooDeep:  {"workflow w | both | both | both | both | both | if 1 less 2 | end | return 1"},
		impl.FlowUnknown:  {"workflow w | return n", "workflow w n | if n less 1 | let a is 1 | end | return a", "workflow w n | while n less 1 | let a is 1 | end | return a"},
		impl.FlowTwice:    {"workflow w | both | let a is 1 | and | let a is 2 | end | return 1", "workflow w a | both | let a is 1 | and | sleep a | end | return 1", "workflow w | both | get a go | and | get b go | end | return 1"},
		impl.FlowNoReturn: {"workflow w", "workflow w | sleep 1", "workflow w | if 1 less 2 | return 1 | end", "workflow w | while 1 less 2 | return 1 | end"},
		impl.FlowDead:     {"workflow w | return 1 | return 2", "workflow w | if 1 less 2 | fail 1 | else | next | end | return 1", "workflow w | while 1 less 2 | next | sleep 1 | end | return 1"},
	} {
		for _, flow := range flows {
			notMade(t, linesOf(t, parted(flow)), code)
		}
	}
	right := linesOf(t, parted("workflow w n | do a pay n undo back | get b go for 3 | if a less b | return a | end | next a b"))
	spoil := func(place int, change func(l *impl.FlowLine)) {
		lines := deepCopy(right)
		change(&lines[place])
		notMade(t, lines, impl.FlowBadLine)
	}
	for place := range right {
		for _, kind := range []int{-1 << 62, -1, 0, 16, 1 << 62} {
			spoil(place, func(l *impl.FlowLine) { l.Kind = kind })
		}
		spoil(place, func(l *impl.FlowLine) { l.To += " " })
		spoil(place, func(l *impl.FlowLine) { l.Name += "A" })
		spoil(place, func(l *impl.FlowLine) { l.Undo = "a b" })
		spoil(place, func(l *impl.FlowLine) { l.Args = append(l.Args, "1", "1", "1", "1") })
	}
	if _, ok := impl.FlowMake(right); !ok {
		t.Error("the lines that were spoilt were not right")
	}
}

// Nothing that is handed in is changed, also behind the ends of its lists; steps share no memory with it, or with each other.
func TestStepsAreNewMemory(t *testing.T) {
	text := rows("workflow w n m", "do a pay n m 3 undo back", "do b pay n undo back", "get c go for n", "both", "do d pay a b", "and", "do e pay a b", "end", "if a less b", "next a b", "else", "sleep c", "end", "fail c")
	lines := linesOf(t, text)
	for i, l := range lines {
		lines[i].Args = append(slices.Clone(l.Args), "behind", "behind")[: len(l.Args) : len(l.Args)+2]
	}
	lines = append(lines, impl.FlowLine{Kind: 77})[:len(lines)]
	before := deepCopy(lines)
	untouched := func() {
		t.Helper()
		if !same(lines, before) || lines[:len(lines)+1][len(lines)].Kind != 77 {
			t.Errorf("%v became %v", before, lines)
		}
		for _, l := range lines {
			if n := len(l.Args); l.Args[:n+2][n] != "behind" || l.Args[:n+2][n+1] != "behind" {
				t.Errorf("written behind the end of %v", l)
			}
		}
	}
	want, _ := impl.FlowMake(lines)
	shown := impl.FlowShow(lines)
	untouched()
	for i := range want {
		steps, ok := impl.FlowMake(lines)
		if !ok || !sameSteps(steps, want) {
			t.Fatalf("a second answer is another one: %v", steps)
		}
		args := steps[i].Args[:cap(steps[i].Args)]
		for j := range args {
			args[j] = "changed"
		}
		for j := range steps {
			if j != i && !slices.Equal(steps[j].Args, want[j].Args) {
				t.Errorf("the lists of steps %d and %d share memory", i, j)
			}
		}
		spare := steps[:cap(steps)]
		for j := range spare {
			spare[j] = impl.FlowStep{Code: 99}
		}
		untouched()
	}
	if impl.FlowShow(lines) != shown {
		t.Error("shown otherwise the second time")
	}
}

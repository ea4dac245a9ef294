package tests

import (
	"fmt"
	"runtime"
	"slices"
	"strings"
	"testing"
	"time"

	"loop.example/dunlin/impl"
)

// lookCase is two workflows, and what a look at them tells.
type lookCase struct {
	old, next string
	code      int
	want      string
}

func allLooked(t *testing.T, list []lookCase) {
	t.Helper()
	for _, c := range list {
		looks(t, flow(t, c.old), flow(t, c.next), c.code, c.want)
	}
}

func TestLooksAtTheSame(t *testing.T) {
	var list []lookCase
	for _, text := range []string{"workflow w|return 1", "workflow w|fail 1", "workflow w a b c|next a b c", "workflow w|sleep 1|return 1", "workflow w|get a go|return a", "workflow w|get a go for 3|return a", "workflow w n|do a x n undo y|return a", payFlow, "workflow w|both|do a x|and|sleep 1|end|return a"} {
		list = append(list, lookCase{text, text, 0, ""})
	}
	allLooked(t, append(list, []lookCase{
		// Other names of numbers, of the workflow, and other ways to the same.
		{"workflow w n|do a pay n|return a", "workflow v m|do b pay m|return b", 0, ""},
		{"workflow w n|do a pay n|return a", "workflow w n|let m add n 0|if m less 2|do a pay m|else|do a mail|end|return a", 0, ""},
		// What is unlike by no small number, and what is never come to.
		{"workflow w n|do a pay n|return a", "workflow w n|do a pay n|if a more 1|return 7|end|return a", 0, ""},
		{"workflow w n|do a pay n|return a", "workflow w n|do a pay n|if n less 0|sleep 1|end|return a", 0, ""},
		{"workflow w|get a go|return a", "workflow w|get a go|if a same 2|return 7|end|return a", 0, ""},
		{"workflow w|get a go for 3|return a", "workflow w|get a go for 3|if a same -2|return 7|end|return a", 0, ""},
		// A name that nobody asks for: the same is said, though another signal is waited for in the end.
		{"workflow w|sleep 1|return 1", "workflow w|get a go for 1|return 1", 0, ""},
		// A patch that the history does not have is not there.
		{"workflow w|do a x|return a", "workflow w|patch p|sleep 1|end|do a x|patch q|return 7|end|return a", 0, ""},
		{"workflow w|patch p|sleep 1|else|sleep 2|end|return 1", "workflow w|patch p|sleep 1|else|sleep 3|end|return 1", 0, ""},
	}...))
}

func TestLooksThatPartAtOnce(t *testing.T) {
	allLooked(t, []lookCase{
		{"workflow w|return 1", "workflow w|return 2", 1, "start|end 1 1"},
		{"workflow w|return 1", "workflow w|fail 1", 1, "start|end 1 1"},
		{"workflow w|fail 1", "workflow w|sleep 1|fail 1", 1, "start|end 2 1"},
		{"workflow w|next 1 2", "workflow w|next 1", 1, "start|end 3 0 1 2"},
		{"workflow w|sleep 1|return 1", "workflow w|sleep 2|return 1", 1, "start|ask 1 0 - 1"},
		{"workflow w|sleep 1|return 1", "workflow w|return 1", 1, "start|ask 1 0 - 1"},
		{"workflow w|do a x|return a", "workflow w|do a y|return a", 1, "start|ask 1 0 x"},
		{"workflow w|do a x|return a", "workflow w|both|do a x|and|end|return a", 1, "start|ask 1 0 x"},
		{"workflow w|get a go|return a", "workflow w|get a go for 1|return a", 1, "start"},
		{"workflow w|get a go|return a", "workflow w|return 1", 1, "start"},
		{"workflow w|patch p|end|return 1", "workflow w|patch q|end|return 1", 1, "start|mark p|end 1 1"},
		{"workflow w|patch p|end|return 1", "workflow w|return 1", 1, "start|mark p|end 1 1"},
		{"workflow w|patch p|sleep 1|end|return 1", "workflow w|patch p|end|sleep 2|return 1", 1, "start|mark p|ask 1 0 - 1"},
		// Heads with more names, and less.
		{"workflow w|return 1", "workflow w n|return 1", 1, "start|end 1 1"},
		{"workflow w n|return 1", "workflow w|return 1", 1, "start 0|end 1 1"},
		{"workflow w a b c|return 1", "workflow w a b|return 1", 1, "start 0 0 0|end 1 1"},
	})
}

// Of the numbers at a head the last changes first.
func TestLooksByTheNumbersOfAHead(t *testing.T) {
	old := "workflow w a b c|do x pay a b c|return x"
	for first := range 8 {
		// All from this one on are unlike.
		next := strings.Replace(old, "do x", "let s mul a 4|let u mul b 2|let s add s u|let s add s c|if s less "+fmt.Sprint(first)+"|do x", 1)
		next = strings.Replace(next, "|return", "|else|do x mail|end|return", 1)
		nums := fmt.Sprintf("%d %d %d", first>>2&1, first>>1&1, first&1)
		allLooked(t, []lookCase{{old, next, 1, "start " + nums + "|ask 1 0 pay " + nums}})
		// This one alone is unlike.
		next = strings.Replace(next, " less ", " other ", 1)
		allLooked(t, []lookCase{{old, next, 1, "start " + nums + "|ask 1 0 pay " + nums}})
		// This one is unlike, but only behind what may happen to all: they are looked at in turn.
		next = strings.Replace(old, "return x", "let s mul a 4|let u mul b 2|let s add s u|let s add s c|if s less "+fmt.Sprint(first)+"|return x|end|return 7", 1)
		allLooked(t, []lookCase{{old, next, 1, "start " + nums + "|ask 1 0 pay " + nums + "|done 1 0|end 1 0"}})
	}
	allLooked(t, []lookCase{
		{"workflow w n|do a pay n|return a", "workflow w n|if n same 1|sleep 1|end|do a pay n|return a", 1, "start 1|ask 1 0 pay 1"},
		{"workflow w a b|do c x b|return c", "workflow w a b|if b same 1|sleep 1|end|do c x b|return c", 1, "start 0 1|ask 1 0 x 1"},
		{"workflow w a b|do c x a|return c", "workflow w a b|if a same 1|sleep 1|end|do c x a|return c", 1, "start 1 0|ask 1 0 x 1"},
		{"workflow w|do c x|return c", "workflow w|do c y|return c", 1, "start|ask 1 0 x"},
	})
}

// Two workflows that part only behind something that may happen, of each kind.
func TestLooksThatPartBehindWhatHappens(t *testing.T) {
	two := func(more string) string {
		return "workflow w|do z q undo u|both|do a x|and|get b go for 5|end|" + more + "return a"
	}
	begun := "start|ask 1 0 q|done 1 0|ask 2 0.1 x|ask 3 1.1 - 5"
	allLooked(t, []lookCase{
		{"workflow w|sleep 1|return 1", "workflow w|sleep 1|return 2", 1, "start|ask 1 0 - 1|fired 1|end 1 1"},
		{"workflow w|do a x|return a", "workflow w|do a x|return 0", 1, "start|ask 1 0 x|done 1 1|end 1 1"},
		{"workflow w|do a x|return a", "workflow w|do a x|return 1", 1, "start|ask 1 0 x|done 1 0|end 1 0"},
		{"workflow w|do a x|return 5", "workflow w|do a x|return 6", 1, "start|ask 1 0 x|done 1 0|end 1 5"},
		{"workflow w|do a x|sleep 1|return a", "workflow w|do a x|return a", 1, "start|ask 1 0 x|done 1 0|ask 2 1 - 1"},
		{"workflow w|do a x|return a", "workflow w|do a x|sleep 1|return a", 1, "start|ask 1 0 x|done 1 0|end 1 0"},
		{"workflow w|do a x|patch p|end|return a", "workflow w|do a x|return a", 1, "start|ask 1 0 x|done 1 0|mark p|end 1 0"},
		{"workflow w|get a go|return a", "workflow w|get a go|return 0", 1, "start|signal go 1|end 1 1"},
		{"workflow w|get a go|return a", "workflow w|get a go|return 1", 1, "start|signal go 0|end 1 0"},
		{"workflow w|get a go|return a", "workflow w|get a no|return a", 1, "start|signal go 0|end 1 0"},
		{"workflow w|get a go for 1|return a", "workflow w|get a go for 1|if a less 0|return 7|end|return a", 1, "start|ask 1 0 - 1|fired 1|end 1 -1"},
		{"workflow w|get a go for 1|return a", "workflow w|sleep 1|return -1", 1, "start|ask 1 0 - 1|signal go 0|end 1 0"},
		{"workflow w|get a go for 1|return a", "workflow w|get a no for 1|return a", 1, "start|ask 1 0 - 1|signal go 0|end 1 0"},
		// What is undone shows only behind a cancelling, or something that broke.
		{"workflow w|do a x undo u|sleep 1|return a", "workflow w|do a x|sleep 1|return a", 1, "start|ask 1 0 x|done 1 0|ask 2 1 - 1|cancel|ask 3 0- u 0"},
		{"workflow w|do a x undo u|get b go|return a", "workflow w|do a x undo v|get b go|return a", 1, "start|ask 1 0 x|done 1 0|cancel|ask 2 0- u 0"},
		{"workflow w|do a x undo u|do b y|return a", "workflow w|do a x undo v|do b y|return a", 1, "start|ask 1 0 x|done 1 0|ask 2 1 y|broke 2 1|ask 3 0- u 0"},
		{"workflow w|do a x|do b y|return a", "workflow w|do a x undo v|do b y|return a", 1, "start|ask 1 0 x|done 1 0|ask 2 1 y|broke 2 1|end 2 1"},
		// Behind more than one thing: while it is ending, each answer goes on alike.
		{"workflow w|do a x undo u|do b x undo u|sleep 1|return a", "workflow w|do a x|do b x undo u|sleep 1|return a", 1, "start|ask 1 0 x|done 1 0|ask 2 1 x|broke 2 1|ask 3 0- u 0"},
		{"workflow w|do a x undo u|do b x undo u|fail 3", "workflow w|do a x undo u|do b x undo u|fail 4", 1, "start|ask 1 0 x|done 1 0|ask 2 1 x|done 2 0|ask 3 1- u 0|done 3 0|ask 4 0- u 0|done 4 0|end 2 3"},
		{"workflow w|sleep 1|sleep 2|sleep 3|return 1", "workflow w|sleep 1|sleep 2|sleep 3|return 2", 1, "start|ask 1 0 - 1|fired 1|ask 2 1 - 2|fired 2|ask 3 2 - 3|fired 3|end 1 1"},
		{two(""), two("if a same 0|sleep 1|end|"), 1, begun + "|done 2 0|fired 3|end 1 0"},
		{two(""), two("if b same -1|sleep 1|end|"), 1, begun + "|done 2 0|fired 3|end 1 0"},
		{two(""), two("if a same 1|if b same 1|sleep 1|end|end|"), 1, begun + "|done 2 1|signal go 1|end 1 1"},
	})
}

// What may happen, in the order in which it is looked at; of several that are unlike the first is told.
func TestOrderOfWhatMayHappen(t *testing.T) {
	// Each of these alone makes another workflow unlike behind one thing; broke stands for what is undone.
	kinds := []string{"done 0", "done 1", "broke", "fired", "signal 0", "signal 1"}
	parts := map[string]string{"done 0": "if a same 0|sleep 9|end|", "done 1": "if a same 1|sleep 9|end|", "fired": "if b same -1|sleep 9|end|", "signal 0": "if b same 0|sleep 9|end|", "signal 1": "if b same 1|sleep 9|end|"}
	for swapped, order := range [][]string{{"done 0", "done 1", "broke", "fired", "signal 0", "signal 1"}, {"fired", "done 0", "done 1", "broke", "signal 0", "signal 1"}} {
		work, wait := 2+swapped, 3-swapped
		told := map[string]string{"done 0": fmt.Sprintf("done %d 0", work), "done 1": fmt.Sprintf("done %d 1", work), "broke": fmt.Sprintf("broke %d 1|ask 4 0- u 0", work), "fired": fmt.Sprintf("fired %d", wait), "signal 0": "signal go 0", "signal 1": "signal go 1"}
		begun := "start|ask 1 0 q|done 1 0|ask 2 0.1 x|ask 3 1.1 - 5|"
		if swapped == 1 {
			begun = "start|ask 1 0 q|done 1 0|ask 2 0.1 - 5|ask 3 1.1 x|"
		}
		build := func(chosen func(kind string) bool) []impl.FlowLine {
			a, b, undo := "do a x|", "get b go for 5|", "u"
			for _, kind := range kinds {
				switch {
				case !chosen(kind):
				case kind == "broke":
					undo = "v"
				case strings.HasPrefix(kind, "done"):
					a += parts[kind]
				default:
					b += parts[kind]
				}
			}
			if swapped == 1 {
				a, b = b, a
			}
			return flow(t, "workflow w|do z q undo "+undo+"|both|"+a+"and|"+b+"end|return z")
		}
		old := build(func(string) bool { return false })
		for set := 1; set < 1<<len(kinds); set++ {
			chosen := func(kind string) bool { return set>>slices.Index(kinds, kind)&1 == 1 }
			first := order[slices.IndexFunc(order, chosen)]
			looks(t, old, build(chosen), 1, begun+told[first])
		}
	}
}

func TestOrderOfAsksAndThreads(t *testing.T) {
	allLooked(t, []lookCase{
		// By the Ids of asks, not by their threads: behind the first answer the first thread has the greater one.
		{"workflow w|both|sleep 1|sleep 2|and|sleep 3|end|return 1", "workflow w|both|sleep 1|sleep 2|sleep 9|and|sleep 3|sleep 9|end|return 1", 1, "start|ask 1 0.0 - 1|ask 2 1.0 - 3|fired 2"},
		{"workflow w|both|sleep 1|sleep 2|sleep 4|and|get a go for 3|sleep 5|end|return 1", "workflow w|both|sleep 1|sleep 2|sleep 9|and|get a go for 3|if a less 0|sleep 9|else|sleep 5|end|end|return 1", 1, "start|ask 1 0.0 - 1|ask 2 1.0 - 3|fired 2|ask 3 1.1 - 5"},
		{"workflow w|sleep 7|both|sleep 1|sleep 2|get a go|and|sleep 3|get b no|end|return 1", "workflow w|sleep 7|both|sleep 1|sleep 2|sleep 9|and|sleep 3|sleep 9|end|return 1", 1, "start|ask 1 0 - 7|fired 1|ask 2 0.1 - 1|ask 3 1.1 - 3|fired 3"},
		// Signals by their threads, each with 0 and with 1, behind all asks.
		{"workflow w|both|get a no|and|get b go|end|return 1", "workflow w|both|get a no|if a same 1|sleep 9|end|and|get b go|sleep 9|end|return 1", 1, "start|signal no 1"},
		{"workflow w|both|get a no|and|get b go|end|return 1", "workflow w|both|get a no|and|get b go|sleep 9|end|return 1", 1, "start|signal go 0"},
		{"workflow w|both|get a no|and|sleep 5|end|return 1", "workflow w|both|get a no|sleep 9|and|sleep 5|sleep 9|end|return 1", 1, "start|ask 1 1.0 - 5|fired 1"},
		{"workflow w|both|get a no|and|sleep 5|end|return 1", "workflow w|both|get a no|sleep 9|and|sleep 5|end|return 1", 1, "start|ask 1 1.0 - 5|signal no 0"},
		// A cancelling behind all else.
		{"workflow w|do z q undo u|both|get a no|and|sleep 5|end|return 1", "workflow w|do z q undo v|both|get a no|sleep 9|and|sleep 5|end|return 1", 1, "start|ask 1 0 q|done 1 0|ask 2 1.1 - 5|signal no 0"},
		{"workflow w|do z q undo u|both|get a no|and|sleep 5|end|return 1", "workflow w|do z q undo v|both|get a no|if a same 1|sleep 9|end|and|sleep 5|end|return 1", 1, "start|ask 1 0 q|done 1 0|ask 2 1.1 - 5|signal no 1"},
		{"workflow w|do z q undo u|both|get a no|and|sleep 5|end|return 1", "workflow w|do z q undo v|both|get a no|and|sleep 5|end|return 1", 1, "start|ask 1 0 q|done 1 0|ask 2 1.1 - 5|cancel|ask 3 0- u 0"},
		// A shorter history is ahead of a longer one, even behind a later thing.
		{"workflow w|do a x|if a same 0|sleep 1|return 1|end|return 2", "workflow w|do a x|if a same 0|sleep 1|return 7|end|return 7", 1, "start|ask 1 0 x|done 1 1|end 1 2"},
	})
}

// sleeping is a workflow with so many sleeps in a row: each is another small history, and another one that is cancelled.
func sleeping(count int, head, tail string) string {
	return fmt.Sprintf("workflow w%s|let i is 0|while i less %d|sleep 1|let i add i 1|end|%s", head, count, tail)
}

func TestLooksAtTheirLimit(t *testing.T) {
	t.Parallel()
	fires := func(count int) string {
		text := "start|ask 1 0 - 1"
		for i := range count {
			text += fmt.Sprintf("|fired %d|ask %d %d - 1", i+1, i+2, i+1)
		}
		return text
	}
	// Of three names each choice has fifteen; the last of them alone has some more, or none.
	wide := func(more, tail string) string {
		return "workflow w a b c|let s add a b|let s add s c|let k is 7|if s same 3|" + more + "let i is 0|end|let i is 0|while i less k|sleep 1|let i add i 1|end|if s same 3|" + tail + "end|return 1"
	}
	list := []lookCase{
		// 119, 120, 121 and 122 small histories.
		{sleeping(59, "", "return 1"), sleeping(59, "", "return 1"), 0, ""},
		{sleeping(58, "", "get a go|return 1"), sleeping(58, "", "get a go|return 1"), 0, ""},
		{sleeping(60, "", "return 1"), sleeping(60, "", "return 1"), 2, ""},
		{sleeping(59, "", "get a go|return 1"), sleeping(59, "", "get a go|return 1"), 2, ""},
		{sleeping(7, " a b c", "return 1"), sleeping(7, " x y z", "return 1"), 0, ""},
		{wide("", ""), wide("", ""), 0, ""},
		{wide("let k is 8|", ""), wide("let k is 8|", ""), 2, ""},
		// The last one of those that are looked at is unlike.
		{sleeping(59, "", "return 1"), sleeping(59, "", "return 2"), 1, strings.TrimSuffix(fires(59), "|ask 60 59 - 1") + "|end 1 1"},
		{sleeping(60, "", "return 1"), sleeping(60, "", "return 2"), 1, strings.TrimSuffix(fires(60), "|ask 61 60 - 1") + "|end 1 1"},
		{sleeping(58, "", "get a go|return 1"), sleeping(58, "", "get a go|if a same 1|sleep 1|end|return 1"), 1, fires(57) + "|fired 58|signal go 1|end 1 1"},
		{sleeping(59, "", "get a go|return 1"), sleeping(59, "", "get a go|if a same 0|sleep 1|end|return 1"), 1, fires(58) + "|fired 59|signal go 0|end 1 1"},
		{sleeping(60, "", "sleep 1|return 1"), sleeping(60, "", "sleep 2|return 1"), 1, fires(60)},
		// One more is not looked at, though it is unlike.
		{wide("let k is 8|", ""), wide("let k is 8|", "return 2|"), 2, ""},
		{sleeping(61, "", "return 1"), sleeping(61, "", "return 2"), 2, ""},
		{sleeping(59, "", "get a go|return 1"), sleeping(59, "", "get a go|if a same 1|sleep 1|end|return 1"), 2, ""},
		{sleeping(61, "", "sleep 1|return 1"), sleeping(61, "", "sleep 2|return 1"), 2, ""},
		// Without end.
		{"workflow w|while 1 less 2|do a pay|end|return 1", "workflow w|while 1 less 2|do a pay|end|return 1", 2, ""},
		{"workflow w|while 1 less 2|get a go|end|return 1", "workflow w|while 1 less 2|get a go|end|return 2", 2, ""},
		// Many asks at once.
		{"workflow w|both|both|do a x|and|do b x|end|and|both|do c x|and|do d x|end|end|return 1", "workflow w|both|both|do a x|and|do b x|end|and|both|do c x|and|do d x|end|end|return 2", 2, ""},
		{"workflow w|let i is 0|while i less 300|let i add i 1|end|return 1", "workflow w|let i is 0|while i less 250|let i add i 1|end|return 1", 0, ""},
	}
	allLooked(t, list)
	// How many there are, by the second reckoning.
	for place, want := range []int{119, 120, 120, 120, 120, 120, 120} {
		lines := flow(t, list[place].old)
		if _, _, count := lookBy(t, lines, lines); count != want {
			t.Errorf("%s: %d histories, asked for %d", list[place].old, count, want)
		}
	}
}

func TestLooksAtWorkflowsWithAFault(t *testing.T) {
	right := flow(t, "workflow w|return 1")
	for _, text := range []string{"", "workflow w", "return 1", "workflow w|sleep 1", "workflow w|sleep a|return 1", "workflow w|return 1|sleep 1", "workflow w|if 1 less 2|return 1", strings.Repeat("sleep 1|", 61)} {
		wrong := linesBy(t, text)
		looks(t, right, wrong, 2, "")
		looks(t, wrong, right, 2, "")
		looks(t, wrong, wrong, 2, "")
	}
	for _, wrong := range [][]impl.FlowLine{nil, {{Kind: 77}}, {{}, {}}} {
		looks(t, right, wrong, 2, "")
		looks(t, wrong, right, 2, "")
	}
}

// What is told is new memory, nothing that was handed in is changed, and nobody is left who goes on.
func TestLooksAreNewMemory(t *testing.T) {
	old := flow(t, "workflow w a b|both|do c x a b undo y|and|do d x b a|end|get e go|patch p|end|next c d e")
	next := flow(t, "workflow w a b|both|do c x a b undo y|and|do d x b a|end|get e go|patch p|end|next c d b")
	for _, lines := range []*[]impl.FlowLine{&old, &next} {
		for i := range *lines {
			(*lines)[i].Args = roomy((*lines)[i].Args, "behind")
		}
		*lines = roomy(*lines, impl.FlowLine{Kind: 77})
	}
	before := fmt.Sprint(old[:cap(old)], next[:cap(next)])
	going := runtime.NumGoroutine()
	code, list := impl.VerLook(old, next)
	code2, list2 := impl.VerLook(old, next)
	for range 200 {
		if runtime.NumGoroutine() <= going {
			break
		}
		time.Sleep(5 * time.Millisecond)
	}
	if now := runtime.NumGoroutine(); now > going {
		t.Errorf("%d went on, and now %d", going, now)
	}
	if code != 1 || code2 != 1 || rowsBy(list) != rowsBy(list2) || !strings.HasSuffix(rowsBy(list), "signal go 1|mark p|end 3 0 0 0 1") {
		t.Errorf("%d, %s, and %d, %s", code, rowsBy(list), code2, rowsBy(list2))
	}
	lieApart(t, spansOfLines("old", old), spansOfLines("next", next), spansOfHist("told", list), spansOfHist("told again", list2))
	// One list as both.
	if code, list := impl.VerLook(old, old); code == 1 || len(list) != 0 {
		t.Errorf("%d, %v", code, list)
	}
	if fmt.Sprint(old[:cap(old)], next[:cap(next)]) != before {
		t.Errorf("%s became %v, %v", before, old[:cap(old)], next[:cap(next)])
	}
}

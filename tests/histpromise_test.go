package tests

import (
	"fmt"
	"math/rand"
	"slices"
	"strings"
	"testing"

	"loop.example/dunlin/impl"
)

// anySignals are some that flows wait for, and some that nobody does.
func anySignals(r *rand.Rand) []impl.RunVar {
	var list []impl.RunVar
	for range r.Intn(6) {
		list = append(list, []impl.RunVar{{Name: "go", Num: 1}, {Name: "no", Num: 2}, {Name: "go", Num: 3}, {Name: "x", Num: 4}, {Name: "Go", Num: 5}, {Name: "go", Num: 10000}}[r.Intn(6)])
	}
	return list
}

// histBy is the history of what happened to a run, by the model, as rows.
func histBy(lines []impl.FlowLine, args []int, list []impl.RunHap) string {
	m := modelOf(lines, args, nil)
	rows := append([]string{rowBy(impl.HistEntry{Kind: impl.EntStart, Nums: args})}, saysBy(nil, 1, m.state())...)
	for _, h := range list {
		known, next := map[string]bool{}, m.rest.Next
		for name := range m.marks {
			known[name] = true
		}
		m.happens(h)
		rows = append(rows, strings.TrimSpace(map[int]string{
			impl.HapDone: fmt.Sprintf("done %d %d", h.Id, h.Num), impl.HapBroke: fmt.Sprintf("broke %d %d", h.Id, h.Num), impl.HapFired: fmt.Sprintf("fired %d", h.Id),
			impl.HapSignal: fmt.Sprintf("signal %s %d", h.Name, h.Num), impl.HapCancel: "cancel"}[h.Kind]))
		rows = append(rows, saysBy(known, next, m.state())...)
	}
	return strings.Join(rows, "|")
}

// quiet are the places of a history ahead of which it may be cut: all that came, and the end.
func quiet(list []impl.HistEntry) []int {
	var places []int
	for i, e := range list {
		if i > 0 && hapBy(e).Kind != 0 {
			places = append(places, i)
		}
	}
	return append(places, len(list))
}

// Replaying the history of a play brings a run to where it stood, at its end and at any time ahead of that.
func TestReplaysOfPlays(t *testing.T) {
	t.Parallel()
	r := rand.New(rand.NewSource(31))
	long, cuts, marks := 0, 0, 0
	for range 1200 {
		lines, args := livelyFlow(r)
		signals, picks, most := anySignals(r), []int{r.Intn(7), r.Intn(7)}, []int{0, 3, 40, 300}[r.Intn(4)]
		s, all := impl.RunPlay(lines, args, signals, picks, most)
		list := impl.HistOf(lines, args, signals, picks, most)
		if want := histBy(lines, args, all); rowsBy(list) != want {
			t.Fatalf("%s%v: %s, asked for %s", impl.FlowPrint(lines), args, rowsBy(list), want)
		}
		if len(s.Marks) > 0 {
			marks++
		}
		got, f := impl.HistReplay(lines, list)
		switch {
		case len(list) > impl.HistMaxLen:
			long++
			if f != (impl.HistFault{Code: impl.HistBad}) || shape(got) != shape(impl.RunState{}) {
				t.Fatalf("%d entries: %+v", len(list), f)
			}
		case f.Code != 0 || shape(got) != shape(s):
			t.Fatalf("%s%s: %+v, %s, asked for %s", impl.FlowPrint(lines), rowsBy(list), f, shape(got), shape(s))
		}
		places := quiet(list)
		for _, n := range []int{0, 1, r.Intn(len(places)), r.Intn(len(places)), len(places) - 1} {
			if n >= len(places) || places[n] > impl.HistMaxLen {
				continue
			}
			cuts++
			got, f := impl.HistReplay(lines, list[:places[n]])
			want, _ := impl.RunFold(lines, args, all[:n])
			if f.Code != 0 || shape(got) != shape(want) {
				t.Fatalf("%s%s cut at %d: %+v, %s, asked for %s", impl.FlowPrint(lines), rowsBy(list), places[n], f, shape(got), shape(want))
			}
		}
	}
	if long < 1 || cuts < 4000 || marks < 200 {
		t.Errorf("%d were too long, %d were cut, %d had marks", long, cuts, marks)
	}
}

// A history only grows: HistMore's is one, and comes to where RunDo does; with a code nothing is added.
func TestHistoriesOnlyGrow(t *testing.T) {
	t.Parallel()
	r := rand.New(rand.NewSource(32))
	seen := map[string]int{}
	for range 400 {
		lines, args := livelyFlow(r)
		list := impl.HistOf(lines, args, nil, nil, 0)
		for range 25 {
			s, f := impl.HistReplay(lines, list)
			if f.Code != 0 {
				t.Fatalf("%s%s: %+v", impl.FlowPrint(lines), rowsBy(list), f)
			}
			h := anyHap(r, s)
			kept := histShape(list)
			want, code := impl.RunDo(lines, s, h, nil, true)
			more, c := impl.HistMore(lines, list, h)
			seen[fmt.Sprint("code ", c)]++
			if c != code || histShape(list) != kept || len(more) < len(list) || histShape(more[:len(list)]) != kept || (len(more) == len(list)) != (code != 0) {
				t.Fatalf("%s%+v behind %s: code %d, asked for %d; %s", impl.FlowPrint(lines), h, rowsBy(list), c, code, rowsBy(more))
			}
			replays(t, lines, more, want)
			heldAsText(t, more)
			if t.Failed() {
				t.Fatalf("%s%+v", impl.FlowPrint(lines), h)
			}
			for _, e := range more[len(list):] {
				seen[kindNames[e.Kind]]++
			}
			list = more
		}
	}
	for _, what := range append([]string{"code 0", "code 2", "code 3", "code 5"}, kindNames[2:]...) {
		if seen[what] == 0 {
			t.Errorf("no %s: %v", what, seen)
		}
	}
}

// heldAsText asks that a history is written, and read again as it was.
func heldAsText(t *testing.T, list []impl.HistEntry) {
	t.Helper()
	text := impl.HistWrite(list)
	back, ok := impl.HistRead(text)
	if text != lined(rowsBy(list)) || !ok || histShape(back) != histShape(list) || impl.HistWrite(back) != text {
		t.Errorf("%s: written %q, read %v, %s", rowsBy(list), text, ok, rowsBy(back))
	}
}

// spoilHist changes a thing or two of a history; often it has no fault all the same.
func spoilHist(r *rand.Rand, list []impl.HistEntry) []impl.HistEntry {
	list = copyHist(list)
	for range 1 + r.Intn(2) {
		if len(list) == 0 {
			return list
		}
		i, j := r.Intn(len(list)), r.Intn(len(list))
		switch r.Intn(14) {
		case 0, 1:
			list = slices.Delete(list, i, i+1)
		case 2:
			list = slices.Insert(list, i, list[j])
		case 3:
			list = append(list, list[j])
		case 4:
			list[i], list[j] = list[j], list[i]
		case 5, 6:
			list = list[:i+1]
		case 7:
			list = slices.Insert(list, i+1, impl.HistEntry{Kind: impl.EntMark, Name: []string{"p", "q", "r", "x"}[r.Intn(4)]})
		case 8:
			list = slices.DeleteFunc(list, func(e impl.HistEntry) bool { return e.Kind == impl.EntMark && e.Name == "p" })
		case 9:
			list = slices.Insert(list, i+1, impl.HistEntry{Kind: impl.EntSignal, Name: "go", Nums: []int{1}})
		case 10:
			list = slices.Insert(list, i, impl.HistEntry{Kind: impl.EntCancel})
		default:
			spoilEntry(r, &list[i])
		}
		list = copyHist(list)
	}
	return list
}

func spoilEntry(r *rand.Rand, e *impl.HistEntry) {
	num := []int{0, 1, -1, 2, 5, 9999, 10000, -9999, -10000}[r.Intn(9)]
	switch r.Intn(9) {
	case 0:
		e.Kind = r.Intn(12) - 1
	case 1:
		e.Id += []int{1, -1, 9999, -9999}[r.Intn(4)]
	case 2:
		e.Key = []string{"", "0", "0.1", "1-", "a", strings.Repeat("1", 24), strings.Repeat("1", 25)}[r.Intn(7)]
	case 3, 4:
		e.Name = []string{"", "x", "y", "go", "p", "q", "X", "x23456789"}[r.Intn(8)]
	case 5:
		e.Nums = append(e.Nums, num)
	default:
		if len(e.Nums) > 0 {
			e.Nums[r.Intn(len(e.Nums))] = num
		}
	}
}

// Of any history the first fault is told, at its place; ahead of what came last ahead of it there is none.
func TestAnyHistories(t *testing.T) {
	t.Parallel()
	r := rand.New(rand.NewSource(33))
	codes := map[int]int{}
	for range 700 {
		lines, args := livelyFlow(r)
		list := impl.HistOf(lines, args, anySignals(r), []int{r.Intn(7), r.Intn(7)}, r.Intn(12))
		for range 12 {
			spoilt := spoilHist(r, list)
			s, f := impl.HistReplay(lines, spoilt)
			want, fault := replayBy(lines, spoilt)
			if f != fault || shape(s) != shape(want) {
				t.Fatalf("%s%s: %+v, asked for %+v; %s, asked for %s", impl.FlowPrint(lines), histShape(spoilt), f, fault, shape(s), shape(want))
			}
			codes[f.Code]++
			faultIsFirst(t, lines, spoilt, f)
			h := anyHap(r, s)
			more, code := impl.HistMore(lines, spoilt, h)
			if (f.Code != 0) != (code == 1) || f.Code != 0 && len(more) != 0 {
				t.Fatalf("%s%s, %+v: code %d, %s", impl.FlowPrint(lines), histShape(spoilt), h, code, histShape(more))
			}
			if ok := !slices.ContainsFunc(spoilt, func(e impl.HistEntry) bool { return !entryOkBy(e) }); ok != (impl.HistWrite(spoilt) != "" || len(spoilt) == 0) {
				t.Fatalf("%s: written %q", histShape(spoilt), impl.HistWrite(spoilt))
			}
		}
	}
	for code := range 5 {
		if codes[code] < 200 {
			t.Errorf("code %d came %d times", code, codes[code])
		}
	}
}

func faultIsFirst(t *testing.T, lines []impl.FlowLine, list []impl.HistEntry, f impl.HistFault) {
	t.Helper()
	if f.At < 0 || f.At > len(list) || f.At == len(list) && f.Code != impl.HistMissing && len(list) > 0 {
		t.Fatalf("%s: %+v is nowhere", histShape(list), f)
	}
	if f.Code == 0 || f.Code == impl.HistBad {
		return
	}
	ahead := f.At
	if f.Code != impl.HistNever {
		ahead--
		for ahead > 0 && hapBy(list[ahead]).Kind == 0 {
			ahead--
		}
	}
	if ahead == 0 {
		return
	}
	if _, first := impl.HistReplay(lines, list[:ahead]); first.Code != 0 {
		t.Fatalf("%s%s: %+v, and ahead of it %+v", impl.FlowPrint(lines), rowsBy(list), f, first)
	}
}

// A history that another workflow made is held against this one.
func TestHistoriesOfOtherWorkflows(t *testing.T) {
	t.Parallel()
	r := rand.New(rand.NewSource(34))
	codes := map[int]int{}
	for range 1500 {
		lines, args := livelyFlow(r)
		other := deepCopy(lines)
		for range 1 + r.Intn(2) {
			i := 1 + r.Intn(len(other)-1)
			switch l := &other[i]; {
			case l.Kind == impl.FlowDo && r.Intn(2) == 0:
				l.Name = "z"
			case l.Kind == impl.FlowPatch:
				l.Name = []string{"p", "q", "z"}[r.Intn(3)]
			case len(l.Args) > 0:
				l.Args[r.Intn(len(l.Args))] = "2"
			}
		}
		if impl.FlowCheck(other).Code != 0 {
			continue
		}
		list := impl.HistOf(lines, args, anySignals(r), []int{r.Intn(7), r.Intn(7)}, 30)
		s, f := impl.HistReplay(other, list)
		want, fault := replayBy(other, list)
		if f != fault || shape(s) != shape(want) {
			t.Fatalf("%s%s: %+v, asked for %+v; %s, asked for %s", impl.FlowPrint(other), histShape(list), f, fault, shape(s), shape(want))
		}
		codes[f.Code]++
		faultIsFirst(t, other, list, f)
	}
	if codes[0] < 50 || codes[impl.HistUnlike] < 50 || codes[impl.HistMissing] < 5 {
		t.Errorf("%v", codes)
	}
}

// spoilText changes a byte or two of a text.
func spoilText(r *rand.Rand, text string) string {
	for range 1 + r.Intn(2) {
		i := r.Intn(len(text) + 1)
		piece := []string{" ", "\n", "0", "1", "-", "+", "a", "A", ".", "\xff", "é", "\r\n", "1\n", "start\n", "mark p\n", " 5", "\t"}[r.Intn(17)]
		rest := text[i:]
		if r.Intn(2) == 0 && rest != "" {
			rest = rest[1:]
		}
		if r.Intn(3) == 0 {
			piece = ""
		}
		text = text[:i] + piece + rest
	}
	return text
}

// readHist holds what is read of a text to how a text must be.
func readHist(t *testing.T, text string) bool {
	t.Helper()
	list, ok := impl.HistRead(text)
	if ok != isText(text) {
		t.Fatalf("%q: read %v, %+v", text, ok, list)
	}
	if !ok && len(list) > 0 || ok && (impl.HistWrite(list) != text || len(list) != strings.Count(text, "\n")) {
		t.Fatalf("%q: %s", text, histShape(list))
	}
	return ok
}

func TestTextsOfHistories(t *testing.T) {
	t.Parallel()
	r := rand.New(rand.NewSource(35))
	oks, wrong := 0, 0
	for range 20000 {
		var all []string
		for range r.Intn(5) {
			all = append(all, rightRows[r.Intn(len(rightRows))]+"\n")
		}
		text := strings.Join(all, "")
		if !readHist(t, text) {
			t.Fatalf("%q is not read", text)
		}
		if readHist(t, spoilText(r, text)) {
			oks++
		} else {
			wrong++
		}
	}
	if oks < 1000 || wrong < 5000 {
		t.Errorf("%d were right, %d wrong", oks, wrong)
	}
	for range 5000 {
		readHist(t, randomBytes(r)+"\n")
	}
}

// What is answered hangs on what is handed in alone, from however many sides it is asked.
func TestHistoriesHangOnNothingElse(t *testing.T) {
	t.Parallel()
	r := rand.New(rand.NewSource(36))
	for range 60 {
		lines, args := livelyFlow(r)
		signals, picks := anySignals(r), []int{r.Intn(5), r.Intn(5)}
		ask := func() string {
			list := impl.HistOf(lines, args, signals, picks, 20)
			s, f := impl.HistReplay(lines, list)
			more, code := impl.HistMore(lines, list, cancel())
			return fmt.Sprint(histShape(list), shape(s), f, histShape(more), code, impl.HistWrite(more))
		}
		askedAtOnce(t, impl.FlowPrint(lines), ask)
	}
}

// askedAtOnce asks for the same from some sides at once.
func askedAtOnce(t *testing.T, of string, ask func() string) {
	t.Helper()
	want := ask()
	got := make(chan string)
	for range 6 {
		go func() { got <- ask() }()
	}
	for range 6 {
		if x := <-got; x != want {
			t.Errorf("%s%s, and %s", of, want, x)
		}
	}
}

func FuzzHistRead(f *testing.F) {
	f.Add(lined(payHist))
	f.Add(strings.Join(rightRows, "\n") + "\n")
	for _, row := range wrongRows {
		f.Add(row + "\n")
	}
	f.Fuzz(func(t *testing.T, text string) {
		if readHist(t, text) {
			list, _ := impl.HistRead(text)
			lines := flow(t, payFlow)
			_, fault := impl.HistReplay(lines, list)
			if _, byHand := replayBy(lines, list); fault != byHand {
				t.Errorf("%q: %+v, by hand %+v", text, fault, byHand)
			}
		}
	})
}

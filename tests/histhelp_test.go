package tests

import (
	"fmt"
	"regexp"
	"slices"
	"strconv"
	"strings"
	"testing"

	"loop.example/dunlin/impl"
)

// kindNames are the words of entries, by their kinds.
var kindNames = strings.Fields("- start mark ask done broke fired signal cancel end")

// entryBy makes an entry of words that are right, by hand, so that histories can be had without HistRead.
func entryBy(t *testing.T, row string) impl.HistEntry {
	t.Helper()
	w := strings.Fields(row)
	e := impl.HistEntry{Kind: slices.Index(kindNames, w[0])}
	w = w[1:]
	number := func() int {
		n, err := strconv.Atoi(w[0])
		if err != nil {
			t.Fatalf("no entry: %q", row)
		}
		w = w[1:]
		return n
	}
	switch e.Kind {
	case impl.EntMark, impl.EntSignal:
		e.Name, w = w[0], w[1:]
	case impl.EntAsk:
		e.Id = number()
		e.Key, e.Name, w = w[0], strings.Trim(w[1], "-"), w[2:]
	case impl.EntDone, impl.EntBroke, impl.EntFired, impl.EntEnd:
		e.Id = number()
	case -1:
		t.Fatalf("no entry: %q", row)
	}
	for len(w) > 0 {
		e.Nums = append(e.Nums, number())
	}
	return e
}

// hist is a history whose entries are parted by strokes.
func hist(t *testing.T, text string) []impl.HistEntry {
	t.Helper()
	var list []impl.HistEntry
	for _, row := range strings.Split(text, "|") {
		if row != "" {
			list = append(list, entryBy(t, row))
		}
	}
	return list
}

// rowBy writes an entry that is ok by hand: what it does not have is left out.
func rowBy(e impl.HistEntry) string {
	row := kindNames[e.Kind]
	if e.Id != 0 {
		row += " " + strconv.Itoa(e.Id)
	}
	if e.Kind == impl.EntAsk {
		row += " " + e.Key
		if e.Name == "" {
			row += " -"
		}
	}
	if e.Name != "" {
		row += " " + e.Name
	}
	return row + strings.TrimSuffix(" "+strings.Trim(fmt.Sprint(e.Nums), "[]"), " ")
}

// rowsBy writes a history as hist reads it.
func rowsBy(list []impl.HistEntry) string {
	var all []string
	for _, e := range list {
		all = append(all, rowBy(e))
	}
	return strings.Join(all, "|")
}

// histShape is the whole of a history; an empty list and none are the same in it.
func histShape(list []impl.HistEntry) string {
	return fmt.Sprintf("%+v", list)
}

func copyHist(list []impl.HistEntry) []impl.HistEntry {
	list = slices.Clone(list)
	for i := range list {
		list[i].Nums = slices.Clone(list[i].Nums)
	}
	return list
}

// entryForm is how an entry that is ok is written: N stands for a number, I for an Id, A for a name.
var entryForm = regexp.MustCompile(strings.NewReplacer("N", `(0|-?[1-9][0-9]{0,3})`, "I", `[1-9][0-9]{0,3}`, "A", `[a-z][a-z0-9]{0,7}`).Replace(
	`^(start( N){0,3}|mark A|ask I [0-9.-]{1,24} (A|-)( N){0,3}|(done|broke) I N|fired I|signal A N|cancel|end [1-4]( N){1,4})$`))

// isText is chapter 21 once more: whether HistRead reads a text.
func isText(text string) bool {
	rows := strings.Split(text, "\n")
	last := len(rows) - 1
	if len(text) > 16000 || rows[last] != "" || last > 400 {
		return false
	}
	return !slices.ContainsFunc(rows[:last], func(row string) bool { return !entryForm.MatchString(row) })
}

// entryOkBy is chapter 21 once more: whether an entry is ok, by how many of each thing its kind has.
func entryOkBy(e impl.HistEntry) bool {
	type has struct{ id, key, name, least, most int }
	kinds := []has{{}, {most: 3}, {name: 2}, {id: 9999, key: 24, name: 1, most: 3}, {id: 9999, least: 1, most: 1}, {id: 9999, least: 1, most: 1}, {id: 9999}, {name: 2, least: 1, most: 1}, {}, {id: 4, least: 1, most: 4}}
	if e.Kind < 1 || e.Kind > 9 {
		return false
	}
	k := kinds[e.Kind]
	id := e.Id == 0 && k.id == 0 || e.Id >= 1 && e.Id <= k.id
	key := e.Key == "" && k.key == 0 || k.key > 0 && regexp.MustCompile(`^[0-9.-]{1,24}$`).MatchString(e.Key)
	name := e.Name == "" && k.name < 2 || k.name > 0 && nameForm.MatchString(e.Name)
	return id && key && name && len(e.Nums) >= k.least && len(e.Nums) <= k.most && within(e.Nums...)
}

// saysBy is what a run says, as rows, that was live, had passed these patches, and would ask by next.
func saysBy(passed map[string]bool, next int, s impl.RunState) []string {
	var list []string
	for _, v := range s.Marks {
		if v.Num == 1 && !passed[v.Name] {
			list = append(list, "mark "+v.Name)
		}
	}
	for _, a := range s.Asks {
		if a.Id >= next {
			list = append(list, rowBy(impl.HistEntry{Kind: impl.EntAsk, Id: a.Id, Key: a.Key, Name: a.Name, Nums: a.Args}))
		}
	}
	if s.Stands != impl.RunLive {
		list = append(list, rowBy(impl.HistEntry{Kind: impl.EntEnd, Id: s.Stands, Nums: append([]int{s.Result}, s.Args...)}))
	}
	return list
}

// hapBy is what an entry says happened; Kind 0, if it says something else.
func hapBy(e impl.HistEntry) impl.RunHap {
	h := impl.RunHap{Kind: map[int]int{4: 1, 5: 2, 6: 3, 7: 4, 8: 5}[e.Kind], Id: e.Id, Name: e.Name}
	if h.Kind > 0 && len(e.Nums) > 0 {
		h.Num = e.Nums[0]
	}
	return h
}

// replayBy is chapter 22 once more, by the model of runs, entry by entry, and by rows of text.
func replayBy(lines []impl.FlowLine, list []impl.HistEntry) (impl.RunState, impl.HistFault) {
	fault := func(at, code int) (impl.RunState, impl.HistFault) {
		return impl.RunState{}, impl.HistFault{At: at, Code: code}
	}
	for i, e := range list {
		if !entryOkBy(e) || i == 0 && e.Kind != impl.EntStart || i > 0 && e.Kind == impl.EntStart {
			return fault(i, impl.HistBad)
		}
	}
	if len(list) == 0 || len(list) > 400 {
		return fault(0, impl.HistBad)
	}
	var m *model
	for i := 0; i < len(list); {
		end := i + 1
		patches := map[string]bool{}
		for end < len(list) && hapBy(list[end]).Kind == 0 {
			if list[end].Kind == impl.EntMark {
				patches[list[end].Name] = true
			}
			end++
		}
		known, next := map[string]bool{}, 1
		if i == 0 {
			if impl.FlowCheck(lines).Code != 0 || len(lines[0].Args) != len(list[0].Nums) {
				return fault(0, impl.HistNever)
			}
			m = modelOf(lines, list[0].Nums, patches)
		} else {
			for name := range m.marks {
				known[name] = true
			}
			next, m.patches = m.rest.Next, patches
			if m.happens(hapBy(list[i])) != 0 {
				return fault(i, impl.HistNever)
			}
		}
		says := saysBy(known, next, m.state())
		for j := i + 1; j < end; j++ {
			if len(says) == 0 || says[0] != rowBy(list[j]) {
				return fault(j, impl.HistUnlike)
			}
			says = says[1:]
		}
		if len(says) > 0 {
			return fault(end, impl.HistMissing)
		}
		i = end
	}
	return m.state(), impl.HistFault{}
}

// faulty asks that a history has this fault, no state, and that nothing comes behind it.
func faulty(t *testing.T, lines []impl.FlowLine, list []impl.HistEntry, at, code int) {
	t.Helper()
	s, f := impl.HistReplay(lines, list)
	if f != (impl.HistFault{At: at, Code: code}) || shape(s) != shape(impl.RunState{}) {
		t.Errorf("%s: %+v, asked for %d at %d; %+v", histShape(list), f, code, at, s)
	}
	more, c := impl.HistMore(lines, list, cancel())
	if c != 1 || len(more) != 0 {
		t.Errorf("%s: more by code %d: %v", histShape(list), c, more)
	}
	if _, byHand := replayBy(lines, list); byHand != f {
		t.Errorf("%s: %+v by hand", histShape(list), byHand)
	}
}

// replays asks that a history has no fault, and comes to a state.
func replays(t *testing.T, lines []impl.FlowLine, list []impl.HistEntry, want impl.RunState) {
	t.Helper()
	s, f := impl.HistReplay(lines, list)
	if f != (impl.HistFault{}) || shape(s) != shape(want) {
		t.Errorf("%s: %+v, %s, asked for %s", histShape(list), f, shape(s), shape(want))
	}
}

// grows is a history behind what happened to it, each thing being let in.
func grows(t *testing.T, lines []impl.FlowLine, list []impl.HistEntry, all ...impl.RunHap) []impl.HistEntry {
	t.Helper()
	for _, h := range all {
		more, code := impl.HistMore(lines, list, h)
		if code != 0 {
			t.Fatalf("%+v behind %s: code %d", h, rowsBy(list), code)
		}
		list = more
	}
	return list
}

// stays asks that something has a code, and that the history is as it was.
func stays(t *testing.T, lines []impl.FlowLine, list []impl.HistEntry, h impl.RunHap, code int) {
	t.Helper()
	more, c := impl.HistMore(lines, list, h)
	if c != code || histShape(more) != histShape(list) {
		t.Errorf("%+v: code %d, asked for %d; %s", h, c, code, histShape(more))
	}
}

func spansOfHist(what string, list []impl.HistEntry) []span {
	all := spanOf(what, list)
	for i, e := range list[:cap(list)] {
		all = append(all, spanOf(fmt.Sprintf("%s.%d.Nums", what, i), e.Nums)...)
	}
	return all
}

func roomyHist(list []impl.HistEntry) []impl.HistEntry {
	list = copyHist(list)
	for i := range list {
		list[i].Nums = roomy(list[i].Nums, 77)
	}
	return roomy(list, impl.HistEntry{Kind: 77})
}

// wholeHist is a history with all that lies behind the ends of its lists.
func wholeHist(list []impl.HistEntry) string {
	list = slices.Clone(list[:cap(list)])
	for i, e := range list {
		list[i].Nums = e.Nums[:cap(e.Nums)]
	}
	return histShape(list)
}

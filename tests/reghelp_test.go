package tests

import (
	"fmt"
	"slices"
	"strconv"
	"strings"
	"testing"

	"loop.example/dunlin/impl"
)

const placesFlow = "workflow order n|do a pay n|get b go|get c go|return b"

const hurryFlow = "workflow hurry|get a go for 3|return a"

const tinyFlow = "workflow tiny|return 1"

// boxFlow waits for signals, again and again.
const boxFlow = "workflow box|get a go|while a other 99|get a go|end|return a"

func regBegin(site int, run string, flow int, nums ...int) impl.RegEvent {
	return impl.RegEvent{Kind: impl.RegBegins, Site: site, Run: run, Id: flow, Nums: nums}
}

func regSignal(site int, run string, token int, name string, nums ...int) impl.RegEvent {
	return impl.RegEvent{Kind: impl.RegSignals, Site: site, Run: run, Id: token, Name: name, Nums: nums}
}

func regTry(site int, run string, id int) impl.RegEvent {
	return impl.RegEvent{Kind: impl.RegTries, Site: site, Run: run, Id: id}
}

func regFire(site int, run string, id int) impl.RegEvent {
	return impl.RegEvent{Kind: impl.RegFires, Site: site, Run: run, Id: id}
}

func regTake(site int) impl.RegEvent {
	return impl.RegEvent{Kind: impl.RegTakes, Site: site}
}

func regSend(site int) impl.RegEvent {
	return impl.RegEvent{Kind: impl.RegSends, Site: site}
}

func regBring(word int) impl.RegEvent {
	return impl.RegEvent{Kind: impl.RegBrings, Id: word}
}

// regKeep brings a word, and keeps it.
func regKeep(word int) impl.RegEvent {
	return impl.RegEvent{Kind: impl.RegBrings, Id: word, Keep: true}
}

func regLose(word int) impl.RegEvent {
	return impl.RegEvent{Kind: impl.RegLoses, Id: word}
}

func regFall(site int) impl.RegEvent {
	return impl.RegEvent{Kind: impl.RegFalls, Site: site}
}

func regRise(site int) impl.RegEvent {
	return impl.RegEvent{Kind: impl.RegRises, Site: site}
}

// regEventBy is an event by its words: `begin SITE RUN FLOW NUM ..`, `signal SITE RUN TOKEN NAME NUM ..`, `try SITE RUN ID`, `take SITE`, `bring WORD`, `keep WORD` ..
func regEventBy(t *testing.T, text string) impl.RegEvent {
	t.Helper()
	words := strings.Fields(text)
	var nums []int
	var names []string
	for _, word := range words[1:] {
		if n, err := strconv.Atoi(word); err == nil {
			nums = append(nums, n)
		} else {
			names = append(names, strings.Trim(word, `"`))
		}
	}
	rest, names := append(slices.Clone(nums), 0, 0), append(names, "", "")
	switch words[0] {
	case "begin":
		return regBegin(rest[0], names[0], rest[1], nums[2:]...)
	case "signal":
		return regSignal(rest[0], names[0], rest[1], names[1], nums[2:]...)
	case "try":
		return regTry(rest[0], names[0], rest[1])
	case "fire":
		return regFire(rest[0], names[0], rest[1])
	}
	of := map[string]func(n int) impl.RegEvent{"take": regTake, "send": regSend, "bring": regBring, "keep": regKeep, "lose": regLose, "fall": regFall, "rise": regRise}[words[0]]
	if of == nil {
		t.Fatalf("no event: %q", text)
	}
	return of(rest[0])
}

// regions are two regions with flows whose lines are parted by strokes.
func regions(t *testing.T, flows ...string) impl.RegWorld {
	t.Helper()
	w, ok := impl.RegOpen(flowsOf(t, flows...))
	if !ok {
		t.Fatalf("not opened: %v", flows)
	}
	return w
}

var regDeeds = deeds[impl.RegWorld, impl.RegEvent]{
	do: impl.RegDo, by: regDoBy, calm: impl.RegCalm, calmBy: regCalmBy, most: 200,
	event: regEventBy, ok: impl.RegOk, okBy: regOkBy, same: sameReg, copy: copyReg, shape: regShape,
}

// occurs, occursAlike, passes and quiets are of regions.
var occurs, occursAlike, passes, quiets = regDeeds.does, regDeeds.doesAlike, regDeeds.doesAll, regDeeds.calms

// regBoards asks for a board whose lines are parted by strokes.
func regBoards(t *testing.T, w impl.RegWorld, want string) {
	t.Helper()
	got := strings.ReplaceAll(strings.TrimSuffix(impl.RegBoard(w), "\n"), "\n", "|")
	if got != want || impl.RegBoard(w) != regBoardBy(w) {
		t.Errorf("board %q, asked for %q, %q by hand", got, want, regBoardBy(w))
	}
}

// noRegions asks that a world is not ok, and that this is answered everywhere.
func noRegions(t *testing.T, what string, w impl.RegWorld) {
	t.Helper()
	if impl.RegOk(w) || impl.RegSafe(w) || impl.RegOne(w) || impl.RegBoard(w) != "" {
		t.Errorf("%s: ok", what)
	}
	for _, e := range []impl.RegEvent{regRise(0), regRise(2), regBring(0), regBegin(0, "", 0), {}, {Kind: 11}} {
		if x, code := impl.RegDo(w, e); code != 1 || regShape(x) != regShape(impl.RegWorld{}) {
			t.Errorf("%s: %+v: code %d, %s", what, e, code, regShape(x))
		}
	}
	for _, rounds := range []int{-1, 0, 1} {
		if x := impl.RegCalm(w, rounds); regShape(x) != regShape(impl.RegWorld{}) {
			t.Errorf("%s: calm %s", what, regShape(x))
		}
	}
	for site := range 3 {
		for _, run := range []string{"", "x", "y", "z"} {
			if s, ok := impl.RegState(w, site, run); ok || shape(s) != shape(impl.RunState{}) {
				t.Errorf("%s: %q at %d has a state", what, run, site)
			}
		}
	}
}

// regShape is the whole of a world of regions; an empty list and none are the same in it.
func regShape(w impl.RegWorld) string {
	return fmt.Sprintf("%+v", w)
}

func sameRegRun(a, b impl.RegRun) bool {
	return a.Name == b.Name && a.Flow == b.Flow && slices.Equal(a.Args, b.Args) && sameHist(a.Hist, b.Hist) && slices.Equal(a.Tokens, b.Tokens)
}

func sameSite(a, b impl.RegSite) bool {
	return a.Up == b.Up && a.Term == b.Term && a.Leads == b.Leads && slices.EqualFunc(a.Runs, b.Runs, sameRegRun) && slices.Equal(a.Late, b.Late) && slices.EqualFunc(a.Back, b.Back, func(x, y impl.RegBack) bool {
		return x.Run == y.Run && x.Flow == y.Flow && slices.Equal(x.Args, y.Args) && x.Token == y.Token && x.Name == y.Name && x.Num == y.Num
	})
}

// sameReg is quicker than two shapes.
func sameReg(a, b impl.RegWorld) bool {
	return slices.EqualFunc(a.Flows, b.Flows, same) && slices.EqualFunc(a.Sites, b.Sites, sameSite) && slices.Equal(a.Effects, b.Effects) && slices.Equal(a.Answered, b.Answered) && slices.EqualFunc(a.Radio, b.Radio, func(x, y impl.RegWord) bool {
		return x.To == y.To && sameSite(x.Site, y.Site)
	})
}

func copySite(s impl.RegSite) impl.RegSite {
	s.Runs, s.Back, s.Late = slices.Clone(s.Runs), slices.Clone(s.Back), slices.Clone(s.Late)
	for i, x := range s.Runs {
		s.Runs[i].Args, s.Runs[i].Hist, s.Runs[i].Tokens = slices.Clone(x.Args), copyHist(x.Hist), slices.Clone(x.Tokens)
	}
	for i, b := range s.Back {
		s.Back[i].Args = slices.Clone(b.Args)
	}
	return s
}

func copyReg(w impl.RegWorld) impl.RegWorld {
	w.Flows, w.Sites, w.Radio, w.Effects, w.Answered = slices.Clone(w.Flows), slices.Clone(w.Sites), slices.Clone(w.Radio), slices.Clone(w.Effects), slices.Clone(w.Answered)
	for i := range w.Flows {
		w.Flows[i] = deepCopy(w.Flows[i])
	}
	for i := range w.Sites {
		w.Sites[i] = copySite(w.Sites[i])
	}
	for i := range w.Radio {
		w.Radio[i].Site = copySite(w.Radio[i].Site)
	}
	return w
}

// changedRegions is a world of which something was changed; it stays ok.
func changedRegions(t *testing.T, w impl.RegWorld, change func(w *impl.RegWorld)) impl.RegWorld {
	t.Helper()
	w = copyReg(w)
	change(&w)
	if !impl.RegOk(w) || regOkBy(w) != "" {
		t.Fatalf("not ok: %q by hand, %s", regOkBy(w), regShape(w))
	}
	return w
}

func roomySite(s impl.RegSite) impl.RegSite {
	s = copySite(s)
	for i, x := range s.Runs {
		s.Runs[i].Args, s.Runs[i].Hist, s.Runs[i].Tokens = roomy(x.Args, 77), roomyHist(x.Hist), roomy(x.Tokens, 77)
	}
	for i, b := range s.Back {
		s.Back[i].Args = roomy(b.Args, 77)
	}
	s.Runs, s.Back, s.Late = roomy(s.Runs, impl.RegRun{Flow: 77}), roomy(s.Back, impl.RegBack{Token: 77}), roomy(s.Late, 77)
	return s
}

// roomyReg has room behind all lists of a world that is filled with a thing.
func roomyReg(w impl.RegWorld) impl.RegWorld {
	w = copyReg(w)
	for i, lines := range w.Flows {
		w.Flows[i] = roomyLines(lines)
	}
	for i, s := range w.Sites {
		w.Sites[i] = roomySite(s)
	}
	for i, word := range w.Radio {
		w.Radio[i].Site = roomySite(word.Site)
	}
	w.Flows, w.Sites, w.Radio = roomy(w.Flows, nil), roomy(w.Sites, impl.RegSite{Term: 77}), roomy(w.Radio, impl.RegWord{To: 77})
	w.Effects, w.Answered = roomy(w.Effects, impl.RegEffect{Tries: 77}), roomy(w.Answered, 77)
	return w
}

// eachListOfSite goes through the lists of a site; of lists in lists those behind an end, too.
func eachListOfSite(what string, s impl.RegSite, tell func(spans []span, text string)) {
	told := func(spans []span, list any) { tell(spans, fmt.Sprint(what, list)) }
	runs, back := s.Runs[:cap(s.Runs)], s.Back[:cap(s.Back)]
	told(spanOf(what+".Runs", runs), runs)
	told(spanOf(what+".Back", back), back)
	told(spanOf(what+".Late", s.Late), s.Late[:cap(s.Late)])
	for _, x := range runs {
		told(spanOf(what+x.Name+".Args", x.Args), x.Args[:cap(x.Args)])
		told(spansOfHist(what+x.Name+".Hist", x.Hist), wholeHist(x.Hist))
		told(spanOf(what+x.Name+".Tokens", x.Tokens), x.Tokens[:cap(x.Tokens)])
	}
	for i, b := range back {
		told(spanOf(fmt.Sprint(what, ".Back", i, ".Args"), b.Args), b.Args[:cap(b.Args)])
	}
}

func eachListOfReg(what string, w impl.RegWorld, tell func(spans []span, text string)) {
	flows, sites, radio := w.Flows[:cap(w.Flows)], w.Sites[:cap(w.Sites)], w.Radio[:cap(w.Radio)]
	tell(spanOf(what+".Flows", flows), "")
	for i, lines := range flows {
		tell(spansOfLines(fmt.Sprint(what, ".Flows", i), lines), fmt.Sprint(lines[:cap(lines)]))
		for _, l := range lines[:cap(lines)] {
			tell(nil, fmt.Sprint(l.Args[:cap(l.Args)]))
		}
	}
	tell(spanOf(what+".Sites", sites), fmt.Sprint(sites))
	for i, s := range sites {
		eachListOfSite(fmt.Sprint(what, ".Sites", i), s, tell)
	}
	tell(spanOf(what+".Radio", radio), fmt.Sprint(radio))
	for i, word := range radio {
		eachListOfSite(fmt.Sprint(what, ".Radio", i), word.Site, tell)
	}
	tell(spanOf(what+".Effects", w.Effects), fmt.Sprint(w.Effects[:cap(w.Effects)]))
	tell(spanOf(what+".Answered", w.Answered), fmt.Sprint(w.Answered[:cap(w.Answered)]))
}

func spansOfReg(what string, w impl.RegWorld) []span {
	var all []span
	eachListOfReg(what, w, func(spans []span, text string) { all = append(all, spans...) })
	return all
}

// wholeReg is a world with all that lies behind the ends of its lists.
func wholeReg(w impl.RegWorld) string {
	var b strings.Builder
	eachListOfReg("", w, func(spans []span, text string) { fmt.Fprintln(&b, text) })
	return b.String()
}

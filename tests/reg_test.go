package tests

import (
	"fmt"
	"math"
	"slices"
	"strings"
	"testing"

	"loop.example/dunlin/impl"
)

// Two regions open with flows that are right, and know nothing; the first leads.
func TestRegionsOpen(t *testing.T) {
	a, b := flow(t, placesFlow), flow(t, tinyFlow)
	for count := 1; count <= 4; count++ {
		list := [][]impl.FlowLine{a, b, a, b}[:count]
		w, ok := impl.RegOpen(list)
		want := impl.RegWorld{Flows: list, Sites: []impl.RegSite{{Up: true, Term: 2, Leads: true}, {Up: true, Term: 2}}}
		if !ok || regShape(w) != regShape(want) {
			t.Errorf("%d flows: %v, %s", count, ok, regShape(w))
		}
		if !impl.RegOk(w) || !impl.RegSafe(w) || !impl.RegOne(w) || regOkBy(w) != "" {
			t.Errorf("not ok, not safe, or not one: %s", regShape(w))
		}
		regBoards(t, w, "site 0 term 2 leads, 0 back, 0 late|site 1 term 2, 0 back, 0 late")
		lieApart(t, spansOfReg("opened", w), spansOfLines("a", a), spansOfLines("b", b), spanOf("list", list))
	}
}

func TestRegionsThatDoNotOpen(t *testing.T) {
	a, b := flow(t, placesFlow), flow(t, tinyFlow)
	for i, flows := range [][][]impl.FlowLine{
		nil, {}, {nil}, {a, b, a, b, a}, {a, b, a, nil}, {a, a[:2]}, {b[:1], a}, {a, nil, b}, slices.Repeat([][]impl.FlowLine{a}, 100),
	} {
		if w, ok := impl.RegOpen(flows); ok || regShape(w) != regShape(impl.RegWorld{}) {
			t.Errorf("case %d: %v, %s", i, ok, regShape(w))
		}
	}
}

// fullRegions have something in each place: runs that wait, and are done, tokens, what is to be given back, and what came too late, words of both sites, and an effect.
func fullRegions(t *testing.T) impl.RegWorld {
	t.Helper()
	w := regions(t, placesFlow, hurryFlow, tinyFlow)
	w = passes(t, w, "begin 0 x 0 2|begin 0 y 1|send 0|bring 0|signal 0 x 7 go 5|signal 0 y 8 go 1|begin 0 z 2")
	w = passes(t, w, "take 1|fire 1 y 1|try 1 x 1|signal 1 x 9 go 6|send 1|bring 0|send 0|keep 0|send 1")
	regBoards(t, w, "site 0 term 3, 3 back, 0 late|  x live 0, 4 written, tokens 9|  y done -1, 4 written, tokens|site 1 term 3 leads, 0 back, 1 late|  x done 6, 6 written, tokens 9 7|  y done -1, 4 written, tokens|  z done 1, 2 written, tokens|x/0 3, tried 1")
	return w
}

type regChange = changing[impl.RegWorld]

func allRegions(t *testing.T, list []regChange) {
	t.Helper()
	told := func(what string, x impl.RegWorld, ok bool) {
		if !ok {
			noRegions(t, what, x)
		} else if impl.RegBoard(x) != regBoardBy(x) || impl.RegSafe(x) != regSafeBy(x) || impl.RegOne(x) != regOneBy(x) {
			t.Errorf("%s: %q, %v, %v", what, impl.RegBoard(x), impl.RegSafe(x), impl.RegOne(x))
		}
	}
	regDeeds.changed(t, fullRegions(t), list, told, regKeep(0), regKeep(1), regTake(0), regTry(1, "x", 1), regSignal(1, "x", 5, "go", 2), regBegin(1, "w", 2))
}

// siteChange is a thing that is changed of a site that follows, with runs, something to give back, and something too late.
type siteChange struct {
	what string
	ok   bool
	make func(s *impl.RegSite)
}

// allSites asks of sites that are there, and of such as words tell of.
func allSites(t *testing.T, list []siteChange) {
	t.Helper()
	site := copySite(fullRegions(t).Sites[0])
	site.Late = []int{8, 11}
	var changes []regChange
	for _, c := range list {
		changed := func() impl.RegSite {
			s := copySite(site)
			c.make(&s)
			return s
		}
		for place := range 2 {
			changes = append(changes,
				regChange{fmt.Sprint(c.what, ", site ", place), c.ok, func(w *impl.RegWorld) { w.Sites[place] = changed() }},
				regChange{fmt.Sprint(c.what, ", word ", place), c.ok, func(w *impl.RegWorld) { w.Radio[place].Site = changed() }})
		}
	}
	allRegions(t, changes)
}

func eachOfSite(what string, least, most int, set func(s *impl.RegSite, n int)) []siteChange {
	var list []siteChange
	for _, c := range each(what, least, most, set) {
		list = append(list, siteChange{c.what, c.ok, c.make})
	}
	return list
}

func TestRegionsOk(t *testing.T) {
	sites := func(count int) func(w *impl.RegWorld) {
		return func(w *impl.RegWorld) { w.Sites = append(w.Sites, w.Sites...)[:count] }
	}
	radio := func(count int) func(w *impl.RegWorld) {
		return func(w *impl.RegWorld) { w.Radio = slices.Repeat(w.Radio[:1], count) }
	}
	allRegions(t, []regChange{
		{"as it is", true, func(w *impl.RegWorld) {}},
		{"no flows", false, func(w *impl.RegWorld) { *w = impl.RegWorld{Sites: make([]impl.RegSite, 2)} }},
		{"four flows", true, func(w *impl.RegWorld) { w.Flows = append(w.Flows, w.Flows[0]) }},
		{"five flows", false, func(w *impl.RegWorld) { w.Flows = append(w.Flows, w.Flows[0], w.Flows[1]) }},
		{"a faulty flow", false, func(w *impl.RegWorld) { w.Flows = append(w.Flows, w.Flows[0][:2]) }},
		{"a flow of nothing", false, func(w *impl.RegWorld) { w.Flows = append(w.Flows, nil) }},
		{"no sites", false, sites(0)}, {"one site", false, sites(1)}, {"three sites", false, sites(3)}, {"four sites", false, sites(4)},
		{"two sites of nothing", true, func(w *impl.RegWorld) { w.Sites = make([]impl.RegSite, 2) }},
		{"both lead", true, func(w *impl.RegWorld) { w.Sites[0].Leads, w.Sites[0].Back = true, nil }},
		{"none leads", true, func(w *impl.RegWorld) { w.Sites[1].Leads = false }},
		{"both are down", true, func(w *impl.RegWorld) { w.Sites[0].Up, w.Sites[1].Up = false, false }},
		{"no words", true, radio(0)}, {"six words", true, radio(6)}, {"seven words", false, radio(7)},
		{"a word of nothing", true, func(w *impl.RegWorld) { w.Radio[0] = impl.RegWord{} }},
		{"a word to who told it", true, func(w *impl.RegWorld) { w.Radio[0].To = 0 }},
		{"a word that is behind the ends", true, func(w *impl.RegWorld) { w.Radio = append(w.Radio, impl.RegWord{To: 7})[:2] }},
	})
	allRegions(t, each("To", 0, 1, func(w *impl.RegWorld, n int) { w.Radio[1].To = n }))
}

func TestEffectsAndAnsweredOk(t *testing.T) {
	effects := func(list ...impl.RegEffect) func(w *impl.RegWorld) {
		return func(w *impl.RegWorld) { w.Effects = list }
	}
	many := func(count int) func(w *impl.RegWorld) {
		return func(w *impl.RegWorld) {
			for n := range count - 1 {
				w.Effects = append(w.Effects, impl.RegEffect{Key: fmt.Sprintf("y/%04d", n), Tries: 1})
			}
		}
	}
	answered := func(list ...int) func(w *impl.RegWorld) {
		return func(w *impl.RegWorld) { w.Answered = list }
	}
	allRegions(t, []regChange{
		{"no effects", true, effects()}, {"two hundred", true, many(200)}, {"more", false, many(201)},
		{"no key", false, effects(impl.RegEffect{Tries: 1})},
		{"any keys", true, effects(impl.RegEffect{Key: "\n", Tries: 1}, impl.RegEffect{Key: "\xff", Tries: 1})},
		{"a key twice", false, effects(impl.RegEffect{Key: "a", Tries: 1}, impl.RegEffect{Key: "a", Tries: 2})},
		{"keys out of order", false, effects(impl.RegEffect{Key: "b", Tries: 1}, impl.RegEffect{Key: "a", Tries: 2})},
		{"a longer key behind", true, effects(impl.RegEffect{Key: "a", Tries: 1}, impl.RegEffect{Key: "aa", Tries: 2})},
		{"the last one was never tried", false, effects(impl.RegEffect{Key: "a", Tries: 1}, impl.RegEffect{Key: "b"})},
		{"none answered", true, answered()}, {"out of order", true, answered(9, 8, 7)}, {"any tokens", true, answered(math.MaxInt, 1)},
		{"a token twice", false, answered(7, 8, 7)}, {"a token of 0", false, answered(7, 0)}, {"a token below", false, answered(-1)}, {"far below", false, answered(7, math.MinInt)},
		{"forty answered", true, answered(manyTokens(40)...)}, {"more", false, answered(manyTokens(41)...)},
	})
	allRegions(t, each("Answer", -9999, 9999, func(w *impl.RegWorld, n int) { w.Effects[0].Answer = n }))
	allRegions(t, each("Tries", 1, 9999, func(w *impl.RegWorld, n int) { w.Effects[0].Tries = n }))
}

// manyTokens are so many, from 101 on.
func manyTokens(count int) []int {
	var list []int
	for n := range count {
		list = append(list, 101+n)
	}
	return list
}

func TestSitesOk(t *testing.T) {
	late := func(list ...int) func(s *impl.RegSite) {
		return func(s *impl.RegSite) { s.Late = list }
	}
	allSites(t, []siteChange{
		{"as it is", true, func(s *impl.RegSite) {}}, {"nothing", true, func(s *impl.RegSite) { *s = impl.RegSite{} }},
		{"down", true, func(s *impl.RegSite) { s.Up = false }},
		{"leads, with back", false, func(s *impl.RegSite) { s.Leads = true }},
		{"leads, without", true, func(s *impl.RegSite) { s.Leads, s.Back = true, nil }},
		{"leads, and is down", true, func(s *impl.RegSite) { s.Leads, s.Back, s.Up = true, nil, false }},
		{"none late", true, late()}, {"out of order", true, late(9, 8, 7)}, {"any tokens", true, late(math.MaxInt, 1)}, {"what a run has", true, late(9)},
		{"a token twice", false, late(7, 8, 7)}, {"a token of 0", false, late(0)}, {"a token below", false, late(7, -1)}, {"far below", false, late(math.MinInt)},
		{"forty late", true, late(manyTokens(40)...)}, {"more", false, late(manyTokens(41)...)},
	})
	allSites(t, eachOfSite("Term", 0, 9999, func(s *impl.RegSite, n int) { s.Term = n }))
}

func TestRunsOfSitesOk(t *testing.T) {
	run := func(place int, set func(x *impl.RegRun)) func(s *impl.RegSite) {
		return func(s *impl.RegSite) { set(&s.Runs[place]) }
	}
	runs := func(names string) func(s *impl.RegSite) {
		return func(s *impl.RegSite) {
			s.Runs = nil
			for _, name := range strings.Fields(names) {
				s.Runs = append(s.Runs, impl.RegRun{Name: name, Flow: 2, Hist: hist(t, "start|end 1 1")})
			}
		}
	}
	tokens := func(list ...int) func(s *impl.RegSite) {
		return run(0, func(x *impl.RegRun) { x.Tokens = list })
	}
	list := []siteChange{
		{"no runs", true, runs("")}, {"four runs", true, runs("a b c d")}, {"five runs", false, runs("a b c d e")},
		{"a name twice", false, runs("a a")}, {"names out of order", false, runs("b a")}, {"a longer name behind", true, runs("a aa")}, {"a longer name ahead", false, runs("aa a")},
		{"no name", false, run(0, func(x *impl.RegRun) { x.Name = "" })},
		{"flow -1", false, run(0, func(x *impl.RegRun) { x.Flow = -1 })}, {"flow past the end", false, run(0, func(x *impl.RegRun) { x.Flow = 3 })},
		{"flow at no end", false, run(0, func(x *impl.RegRun) { x.Flow = math.MaxInt })},
		{"another flow", false, run(0, func(x *impl.RegRun) { x.Flow, x.Args = 1, nil })}, {"another flow that ends", false, run(1, func(x *impl.RegRun) { x.Flow = 2 })},
		{"no args", false, run(0, func(x *impl.RegRun) { x.Args = nil })}, {"too many args", false, run(0, func(x *impl.RegRun) { x.Args = []int{2, 2} })},
		{"an arg too many", false, run(1, func(x *impl.RegRun) { x.Args = []int{2} })},
		{"other args than the history's", false, run(0, func(x *impl.RegRun) { x.Args = []int{3} })},
		{"an arg too great, as in the history", false, run(0, func(x *impl.RegRun) { x.Args, x.Hist[0].Nums = []int{10000}, []int{10000} })},
		{"other args in both", false, run(0, func(x *impl.RegRun) { x.Args, x.Hist[0].Nums = []int{3}, []int{3} })},
		{"other args in all", true, run(0, func(x *impl.RegRun) { x.Args, x.Hist[0].Nums, x.Hist[1].Nums = []int{3}, []int{3}, []int{3} })},
		{"no history", false, run(0, func(x *impl.RegRun) { x.Hist = nil })}, {"no history, no tokens", false, run(1, func(x *impl.RegRun) { x.Hist = nil })},
		{"a history of too little", false, run(1, func(x *impl.RegRun) { x.Hist = x.Hist[:3] })}, {"of too much", false, run(1, func(x *impl.RegRun) { x.Hist = append(x.Hist, x.Hist[3]) })},
		{"a shorter one", true, run(0, func(x *impl.RegRun) { x.Hist, x.Tokens = x.Hist[:2], nil })}, {"unlike", false, run(0, func(x *impl.RegRun) { x.Hist[1].Name = "paid" })},
		{"an answer that is another one", true, run(0, func(x *impl.RegRun) { x.Hist[2].Nums = []int{-4} })},
		{"one token", true, tokens(9)}, {"another token", true, tokens(math.MaxInt)}, {"one that is late", true, tokens(8)}, {"none", false, tokens()}, {"two", false, tokens(9, 10)},
		{"a token of 0", false, tokens(0)}, {"a token below", false, tokens(-9)}, {"a token without a signal", false, run(1, func(x *impl.RegRun) { x.Tokens = []int{5} })},
		{"a signal that is another one", true, run(0, func(x *impl.RegRun) { x.Hist[3].Name = "no" })},
	}
	for _, name := range []string{"a", "a1", "abcdefgh"} {
		list = append(list, siteChange{"named " + name, true, run(0, func(x *impl.RegRun) { x.Name = name })})
	}
	for _, name := range []string{"A", "a ", "a/b", "aa\xff", "abcdefghi", "1a", "é"} {
		list = append(list, siteChange{"named " + name, false, func(s *impl.RegSite) { runs("x")(s); s.Runs[0].Name = name }})
	}
	allSites(t, list)
}

// A run has at most RegMaxTokens tokens, none twice, just as many as its history has signals, which may be more.
func TestTokensOfRunsOk(t *testing.T) {
	boxes := flow(t, boxFlow)
	for _, c := range []struct {
		signals int
		tokens  []int
		ok      bool
	}{
		{0, nil, true}, {0, []int{1}, false}, {1, []int{1}, true}, {2, []int{1, 1}, false}, {2, []int{2, 1}, true}, {3, []int{1, 2, 1}, false}, {3, []int{1, 2, 0}, false},
		{40, manyTokens(40), true}, {39, manyTokens(40), false}, {41, manyTokens(40), false}, {41, manyTokens(41), false}, {41, nil, false},
	} {
		list := hist(t, "start"+strings.Repeat("|signal go 1", c.signals))
		w := regions(t, boxFlow)
		w.Sites[1].Runs = []impl.RegRun{{Name: "x", Hist: list, Tokens: c.tokens}}
		if _, f := impl.HistReplay(boxes, list); f.Code != 0 || impl.RegOk(w) != c.ok || (regOkBy(w) == "") != c.ok {
			t.Errorf("%d signals, tokens %v: ok is not %v, %q by hand", c.signals, c.tokens, c.ok, regOkBy(w))
		}
		if !c.ok {
			noRegions(t, fmt.Sprint(c.signals, " signals"), w)
		}
	}
}

func TestBackOk(t *testing.T) {
	back := func(list ...impl.RegBack) func(s *impl.RegSite) {
		return func(s *impl.RegSite) { s.Back = list }
	}
	began := impl.RegBack{Run: "x", Flow: 0, Args: []int{2}}
	came := impl.RegBack{Run: "x", Token: 5, Name: "go", Num: 3}
	begins := func(set func(b *impl.RegBack)) func(s *impl.RegSite) {
		b := began
		set(&b)
		return back(came, b)
	}
	comes := func(set func(b *impl.RegBack)) func(s *impl.RegSite) {
		b := came
		set(&b)
		return back(began, b)
	}
	allSites(t, []siteChange{
		{"none back", true, back()}, {"both kinds", true, back(came, began)}, {"twice", true, back(began, came, began, came)},
		{"forty-four", true, back(slices.Repeat([]impl.RegBack{came}, 44)...)}, {"more", false, back(slices.Repeat([]impl.RegBack{came}, 45)...)},
		{"begins without a run", false, begins(func(b *impl.RegBack) { b.Run = "" })}, {"begins no name", false, begins(func(b *impl.RegBack) { b.Run = "X" })},
		{"begins another run", true, begins(func(b *impl.RegBack) { b.Run = "abcdefgh" })}, {"begins a name too long", false, begins(func(b *impl.RegBack) { b.Run = "abcdefghi" })},
		{"begins flow -1", false, begins(func(b *impl.RegBack) { b.Flow = -1 })}, {"begins flow 3", false, begins(func(b *impl.RegBack) { b.Flow = 3 })},
		{"begins flow 2", true, begins(func(b *impl.RegBack) { b.Flow, b.Args = 2, nil })}, {"begins flow 2 with too much", false, begins(func(b *impl.RegBack) { b.Flow = 2 })},
		{"begins without args", false, begins(func(b *impl.RegBack) { b.Args = nil })}, {"begins with too many", false, begins(func(b *impl.RegBack) { b.Args = []int{1, 2} })},
		{"begins with a name", false, begins(func(b *impl.RegBack) { b.Name = "go" })}, {"begins with a number", false, begins(func(b *impl.RegBack) { b.Num = 1 })},
		{"comes to no run", false, comes(func(b *impl.RegBack) { b.Run = "" })}, {"comes to no name", false, comes(func(b *impl.RegBack) { b.Run = "x y" })},
		{"comes to another run", true, comes(func(b *impl.RegBack) { b.Run = "nobody" })},
		{"comes without a name", false, comes(func(b *impl.RegBack) { b.Name = "" })}, {"comes as no name", false, comes(func(b *impl.RegBack) { b.Name = "Go" })},
		{"comes with a flow", false, comes(func(b *impl.RegBack) { b.Flow = 1 })}, {"comes with args", false, comes(func(b *impl.RegBack) { b.Args = []int{2} })},
		{"comes below", false, comes(func(b *impl.RegBack) { b.Token = -1 })}, {"comes without a token", false, comes(func(b *impl.RegBack) { b.Token = 0 })},
		{"below, as a beginning", false, begins(func(b *impl.RegBack) { b.Token = -1 })}, {"a beginning with a token", false, begins(func(b *impl.RegBack) { b.Token = 1 })},
		{"comes by any token", true, comes(func(b *impl.RegBack) { b.Token = math.MaxInt })}, {"comes by a token that is known", true, comes(func(b *impl.RegBack) { b.Token = 9 })},
	})
	allSites(t, eachOfSite("Num of a signal", -9999, 9999, func(s *impl.RegSite, n int) { comes(func(b *impl.RegBack) { b.Num = n })(s) }))
	allSites(t, eachOfSite("Args of a beginning", -9999, 9999, func(s *impl.RegSite, n int) { begins(func(b *impl.RegBack) { b.Args = []int{n} })(s) }))
}

// How far a run has come is told of each site, as its own history says.
func TestStatesAtSites(t *testing.T) {
	w := fullRegions(t)
	for _, c := range []struct {
		site           int
		run            string
		there          bool
		stands, result int
	}{
		{0, "x", true, impl.RunLive, 0}, {1, "x", true, impl.RunDone, 6}, {0, "y", true, impl.RunDone, -1}, {1, "y", true, impl.RunDone, -1}, {1, "z", true, impl.RunDone, 1},
		{0, "z", false, 0, 0}, {0, "", false, 0, 0}, {1, "xx", false, 0, 0}, {1, "a", false, 0, 0}, {1, "X", false, 0, 0},
		{-1, "x", false, 0, 0}, {2, "x", false, 0, 0}, {math.MaxInt, "x", false, 0, 0}, {math.MinInt, "x", false, 0, 0},
	} {
		s, ok := impl.RegState(w, c.site, c.run)
		if ok != c.there || s.Stands != c.stands || s.Result != c.result || !ok && shape(s) != shape(impl.RunState{}) {
			t.Errorf("%q at %d: %v, %s", c.run, c.site, ok, shape(s))
		}
		if ok && shape(s) != shape(regStateBy(w, c.site, c.run)) {
			t.Errorf("%q at %d: %s, asked for %s", c.run, c.site, shape(s), shape(regStateBy(w, c.site, c.run)))
		}
		lieApart(t, spansOfReg("w", w), spansOf("state", s))
	}
	down := changedRegions(t, w, func(w *impl.RegWorld) { w.Sites[0].Up = false })
	if s, ok := impl.RegState(down, 0, "x"); !ok || len(s.Asks) != 0 || len(s.Vars) != 3 {
		t.Errorf("%v, %s", ok, shape(s))
	}
}

package tests

import (
	"fmt"
	"math"
	"slices"
	"strings"
	"testing"

	"loop.example/dunlin/impl"
)

// Codes are asked in the order told: the kind, the site, whether it is up, whether it leads, the run, and then those of the kind.
func TestCodesOfRegions(t *testing.T) {
	w := passes(t, regions(t, placesFlow, hurryFlow), "begin 0 x 0 2")
	for _, kind := range []int{0, -1, 11, 12, math.MaxInt, math.MinInt} {
		occurs(t, w, impl.RegEvent{Kind: kind, Site: 5, Run: "x"}, 2)
	}
	down := passes(t, w, "fall 0|fall 1")
	for kind := 1; kind <= 10; kind++ {
		if kind == impl.RegBrings || kind == impl.RegLoses {
			continue
		}
		for _, site := range []int{-1, 2, math.MaxInt, math.MinInt} {
			occurs(t, w, impl.RegEvent{Kind: kind, Site: site}, 5)
			occurs(t, down, impl.RegEvent{Kind: kind, Site: site, Run: "X"}, 5)
		}
		for site := range 2 {
			code := 7
			if kind == impl.RegRises {
				code = 0
			}
			occurs(t, down, impl.RegEvent{Kind: kind, Site: site, Run: "X"}, code)
		}
	}
	for kind := impl.RegBegins; kind <= impl.RegFires; kind++ {
		occurs(t, w, impl.RegEvent{Kind: kind, Site: 1, Run: "X", Id: -1}, 7)
	}
	for kind := impl.RegSignals; kind <= impl.RegFires; kind++ {
		for _, run := range []string{"", "X", "a", "z", "xx"} {
			occurs(t, w, impl.RegEvent{Kind: kind, Run: run, Id: -1}, 5)
		}
	}
	// Of words no site is asked for.
	word := passes(t, w, "send 0|fall 0")
	for _, kind := range []int{impl.RegBrings, impl.RegLoses} {
		for _, site := range []int{0, 1, 2, -1} {
			x := occurs(t, word, impl.RegEvent{Kind: kind, Site: site}, 0)
			if len(x.Radio) != 0 {
				t.Errorf("kind %d, site %d: %s", kind, site, regShape(x))
			}
			for _, id := range []int{-1, 1, math.MaxInt, math.MinInt} {
				occurs(t, word, impl.RegEvent{Kind: kind, Site: site, Id: id}, 5)
			}
			occurs(t, w, impl.RegEvent{Kind: kind, Site: site}, 5)
		}
	}
}

func TestRunsBeginAtSites(t *testing.T) {
	w := regions(t, placesFlow, hurryFlow, tinyFlow)
	// What is wrong with the run comes ahead of that there is one, and that ahead of too many.
	w = passes(t, w, `begin 0 "" 0 2=2|begin 0 X 0 2=2|begin 0 abcdefghi 0 2=2|begin 0 x -1=2|begin 0 x 3=2|begin 0 x 0=2|begin 0 x 0 1 2=2|begin 0 x 0 10000=2|begin 0 x 1 2=2`)
	w = passes(t, w, "begin 0 m 0 -9999|begin 0 m 0=2|begin 0 m 1=3|begin 0 abcdefgh 1|begin 0 z 2|begin 0 n 0 9999|begin 0 m 1=3|begin 0 m 1 2=2|begin 0 o 2=4|begin 0 o 3=2")
	regBoards(t, w, "site 0 term 2 leads, 0 back, 0 late|  abcdefgh live 0, 2 written, tokens|  m live 0, 2 written, tokens|  n live 0, 2 written, tokens|  z done 1, 2 written, tokens|site 1 term 2, 0 back, 0 late")
	x := w.Sites[0].Runs[1]
	if x.Flow != 0 || !slices.Equal(x.Args, []int{-9999}) || rowsBy(x.Hist) != "start -9999|ask 1 0 pay -9999" || len(x.Tokens) != 0 {
		t.Errorf("%+v", x)
	}
	if len(w.Sites[1].Runs) != 0 || len(w.Effects) != 0 || len(w.Radio) != 0 {
		t.Errorf("%s", regShape(w))
	}
	// A run with patches, and one that ends at once, begin live.
	w = passes(t, regions(t, "workflow w|patch p|do a x|end|sleep 2|return 1", "workflow w n|if n less 1|fail n|end|return 2"), "begin 0 a 0|begin 0 b 1 0|begin 0 c 1 1")
	if rows := rowsBy(w.Sites[0].Runs[0].Hist); rows != "start|mark p|ask 1 0 x" {
		t.Errorf("%s", rows)
	}
	regBoards(t, w, "site 0 term 2 leads, 0 back, 0 late|  a live 0, 3 written, tokens|  b failed 0, 2 written, tokens|  c done 2, 2 written, tokens|site 1 term 2, 0 back, 0 late")
}

func TestSignalsAtSites(t *testing.T) {
	w := passes(t, regions(t, placesFlow, hurryFlow, tinyFlow), "begin 0 x 0 2|begin 0 y 1|begin 0 z 2")
	w = passes(t, w, "signal 0 x 0 go 1=2|signal 0 x -5 go 1=2|signal 0 x 1 Go 1=2|signal 0 x 1=2|signal 0 x 1 go=2|signal 0 x 1 go 1 2=2|signal 0 x 1 go 10000=2|signal 0 x 1 go -10000=2")
	w = passes(t, w, "signal 0 x 7 go 9999|signal 0 x 7 go 5=6|signal 0 y 7 go 5=6|signal 0 z 7 go 5=6|signal 0 x 7 Go 5=2|signal 0 z 8 go 5=2|signal 0 y 8 go -9999|signal 0 y 9 go 1=2|signal 0 x 9223372036854775807 no 0")
	regBoards(t, w, "site 0 term 2 leads, 0 back, 0 late|  x live 0, 4 written, tokens 7 9223372036854775807|  y done -9999, 4 written, tokens 8|  z done 1, 2 written, tokens|site 1 term 2, 0 back, 0 late")
	if rows := rowsBy(w.Sites[0].Runs[0].Hist); rows != "start 2|ask 1 0 pay 2|signal go 9999|signal no 0" || !slices.Equal(w.Answered, []int{7, 8, math.MaxInt}) {
		t.Errorf("%s, %v", rows, w.Answered)
	}
	// A box that is full is a code, and nothing was answered then.
	for n := range 18 {
		w = occurs(t, w, regSignal(0, "x", 20+n, "no", 1), 0)
	}
	w = passes(t, w, "signal 0 x 50 no 1=4|signal 0 x 50 go 1=4")
	if len(w.Answered) != 21 {
		t.Errorf("%v", w.Answered)
	}
}

// A token that the run has already is answered alone; in another run, or among what was too late, it does not count here.
func TestSignalsThatAreKnown(t *testing.T) {
	w := passes(t, regions(t, boxFlow), "begin 0 x 0|begin 0 y 0|signal 0 x 7 go 1|signal 0 y 8 go 2")
	w = changedRegions(t, w, func(w *impl.RegWorld) { w.Answered, w.Sites[0].Late = nil, []int{9} })
	has := occurs(t, w, regSignal(0, "x", 7, "no", 3), 0)
	if want := changedRegions(t, w, func(w *impl.RegWorld) { w.Answered = []int{7} }); !sameReg(has, want) {
		t.Errorf("%s", regShape(has))
	}
	occurs(t, has, regSignal(0, "x", 7, "go", 1), 6)
	other := occurs(t, w, regSignal(0, "x", 8, "no", 3), 0)
	if x := other.Sites[0].Runs[0]; rowsBy(x.Hist) != "start|signal go 1|signal no 3" || !slices.Equal(x.Tokens, []int{7, 8}) || !slices.Equal(other.Answered, []int{8}) {
		t.Errorf("%s", regShape(other))
	}
	late := occurs(t, w, regSignal(0, "x", 9, "no", 3), 0)
	if x := late.Sites[0].Runs[0]; !slices.Equal(x.Tokens, []int{7, 9}) || !slices.Equal(late.Answered, []int{9}) || !slices.Equal(late.Sites[0].Late, []int{9}) {
		t.Errorf("%s", regShape(late))
	}
	// The run has the token, and has no room: the token comes first. Of a run that has ended likewise.
	full := changedRegions(t, w, func(w *impl.RegWorld) {
		w.Sites[0].Runs[0].Hist = hist(t, "start"+strings.Repeat("|signal go 1", 40))
		w.Sites[0].Runs[0].Tokens = manyTokens(40)
	})
	passes(t, full, "signal 0 x 140 go 1|signal 0 x 7 go 1=4|signal 0 x 99 go 1=4|signal 0 y 99 go 1")
	ended := passes(t, w, "signal 0 x 70 go 99|signal 0 x 71 go 1=2")
	ended = changedRegions(t, ended, func(w *impl.RegWorld) { w.Answered = nil })
	passes(t, ended, "signal 0 x 70 go 1|signal 0 x 71 go 1=2|signal 0 x 7 go 1")
}

// Answered has room for RegMaxTokens; that it has none is ahead of what the run has, and of its codes.
func TestAnsweredIsFull(t *testing.T) {
	w := passes(t, regions(t, boxFlow, tinyFlow), "begin 0 x 0|begin 0 z 1")
	for n := range 39 {
		w = occurs(t, w, regSignal(0, "x", 1+n, "go", 1), 0)
	}
	last := passes(t, w, "signal 0 z 40 go 1=2|signal 0 x 40 go 1|signal 0 x 40 go 1=6|signal 0 x 41 go 1=4|signal 0 z 41 go 1=4|signal 0 x 41 go 10000=2")
	if len(last.Answered) != 40 || len(last.Sites[0].Runs[0].Tokens) != 40 {
		t.Errorf("%s", regShape(last))
	}
	other := changedRegions(t, w, func(w *impl.RegWorld) { w.Answered = append(manyTokens(39), 1) })
	passes(t, other, "signal 0 x 1 go 1=6|signal 0 x 2 go 1=4|signal 0 x 200 go 1=4")
	room := changedRegions(t, w, func(w *impl.RegWorld) { w.Answered = manyTokens(39) })
	passes(t, room, "signal 0 x 2 go 1|signal 0 x 3 go 1=4")
}

// A history that is full lets nothing in, and then nothing is done, and nothing answered.
func TestHistoriesAtSitesAreFull(t *testing.T) {
	// Each round of the loop writes two entries, behind the first two.
	w := passes(t, regions(t, "workflow w|let n is 0|while n less 300|do a pay n|let n add n 1|end|return n", "workflow w|sleep 1|let n is 0|while n less 300|sleep 2|let n add n 1|end|return n"), "begin 0 x 0|begin 0 y 1")
	long := changedRegions(t, w, func(w *impl.RegWorld) {
		for run, x := range w.Sites[0].Runs {
			for n := 1; len(x.Hist) < 400; n++ {
				h := done(n, 1)
				if run == 1 {
					h = fired(n)
				}
				x.Hist, _ = impl.HistMore(w.Flows[x.Flow], x.Hist, h)
			}
			w.Sites[0].Runs[run] = x
		}
	})
	long = passes(t, long, "try 0 x 200=10|fire 0 y 200=10|signal 0 x 7 go 1=10|signal 0 y 8 go 1=10|try 0 x 199=5|fire 0 y 199=3")
	if len(long.Effects) != 0 || len(long.Answered) != 0 {
		t.Errorf("%s", regBoardBy(long))
	}
	short := changedRegions(t, long, func(w *impl.RegWorld) {
		for run, x := range w.Sites[0].Runs {
			w.Sites[0].Runs[run].Hist = x.Hist[:398]
		}
	})
	passes(t, short, "try 0 x 199|fire 0 y 199|signal 0 x 7 go 1=10")
	passes(t, short, "signal 0 x 7 go 1|signal 0 x 8 go 1|signal 0 x 9 go 1=10|try 0 x 199=10")
}

func TestTriesAtSites(t *testing.T) {
	both := "workflow w n|both|do a pay n undo back|and|sleep 3|end|get b go for 5|do c mail|return c"
	w := passes(t, regions(t, both), "begin 0 x 0 2|begin 0 y 0 2")
	// What is asked for without a Name is a time.
	w = passes(t, w, "try 0 x 0=5|try 0 x 3=5|try 0 x -1=5|try 0 x 2=5|fire 0 x 1=3|fire 0 x 3=3|fire 0 x 0=3|try 0 x 1|try 0 x 1=5|try 0 y 1|fire 0 x 2|fire 0 x 2=3")
	if fmt.Sprint(w.Effects) != "[{x/0.0 -2 1} {y/0.0 -2 1}]" {
		t.Errorf("%v", w.Effects)
	}
	// What was done once is answered as it was then, whatever would be answered now.
	w = changedRegions(t, w, func(w *impl.RegWorld) {
		w.Effects = []impl.RegEffect{{Key: "x/0", Answer: 1, Tries: 1}, {Key: "x/2", Answer: -9999, Tries: 9998}, {Key: "x/3", Answer: 1, Tries: 9999}, {Key: "y/0", Answer: 9, Tries: 9999}, {Key: "y/2", Answer: 9, Tries: 9999}}
	})
	w = passes(t, w, "fire 0 x 3|try 0 x 4|try 0 x 4=5")
	if s := regStateBy(w, 0, "x"); s.Result != -9999 || s.Stands != impl.RunDone {
		t.Errorf("%s", shape(s))
	}
	if fmt.Sprint(w.Effects) != "[{x/0 1 1} {x/2 -9999 9999} {x/3 1 9999} {y/0 9 9999} {y/2 9 9999}]" {
		t.Errorf("%v", w.Effects)
	}
	w = passes(t, w, "fire 0 y 2|fire 0 y 3|try 0 y 4=4|try 0 y 1=5|fire 0 x 4=2|try 0 x 4=5|signal 0 x 7 go 1=2")
}

func TestEffectsOfRegionsAreFull(t *testing.T) {
	w := passes(t, regions(t, placesFlow), "begin 0 x 0 2|begin 0 y 0 2")
	fill := func(count int) func(w *impl.RegWorld) {
		return func(w *impl.RegWorld) {
			for n := range count {
				w.Effects = append(w.Effects, impl.RegEffect{Key: fmt.Sprintf("x/0%03d", n), Tries: 1})
			}
		}
	}
	last := passes(t, changedRegions(t, w, fill(199)), "try 0 x 2=5|try 0 x 1|try 0 y 2=5|try 0 y 1=4")
	if len(last.Effects) != 200 || last.Effects[0].Key != "x/0" {
		t.Errorf("%v", last.Effects)
	}
	passes(t, changedRegions(t, w, fill(200)), "try 0 x 1=4|try 0 y 1=4")
	// What is there already needs no room.
	there := changedRegions(t, w, func(w *impl.RegWorld) {
		fill(199)(w)
		w.Effects = append(w.Effects, impl.RegEffect{Key: "y/0", Answer: 8, Tries: 3})
	})
	there = passes(t, there, "try 0 x 1=4|try 0 y 1")
	if e := there.Effects[199]; e != (impl.RegEffect{Key: "y/0", Answer: 8, Tries: 4}) || regStateBy(there, 0, "y").Vars[0].Num != 8 {
		t.Errorf("%+v", e)
	}
}

// Whichever site tries it, and whatever it was called by there, a thing is done once for its key.
func TestBothSitesDoAThingOnce(t *testing.T) {
	w := passes(t, regions(t, "workflow w n|do a pay n|return a"), "begin 0 x 0 2|take 1|begin 1 x 0 9|try 0 x 1|try 1 x 1")
	if fmt.Sprint(w.Effects) != "[{x/0 3 2}]" || regStateBy(w, 1, "x").Result != 3 {
		t.Errorf("%s", regBoardBy(w))
	}
}

// A site takes the lead by the next term that is its own.
func TestTermsAreTaken(t *testing.T) {
	for _, c := range []struct{ site, term, code, next int }{
		{0, 0, 0, 2}, {0, 1, 0, 2}, {0, 2, 0, 4}, {0, 3, 0, 4}, {0, 9995, 0, 9996}, {0, 9996, 0, 9998}, {0, 9997, 0, 9998}, {0, 9998, 4, 9998}, {0, 9999, 4, 9999},
		{1, 0, 0, 1}, {1, 1, 0, 3}, {1, 2, 0, 3}, {1, 3, 0, 5}, {1, 9996, 0, 9997}, {1, 9997, 0, 9999}, {1, 9998, 0, 9999}, {1, 9999, 4, 9999},
	} {
		w := changedRegions(t, regions(t, tinyFlow), func(w *impl.RegWorld) {
			w.Sites[0].Leads, w.Sites[c.site].Term = false, c.term
			w.Sites[c.site].Back = []impl.RegBack{{Run: "x", Flow: 0}}
		})
		x := occurs(t, w, regTake(c.site), c.code)
		if s := x.Sites[c.site]; s.Term != c.next || s.Leads != (c.code == 0) || len(s.Back) != 1-len(s.Runs) || (len(s.Runs) == 1) != s.Leads {
			t.Errorf("%+v: %s", c, regShape(x))
		}
		// That it leads is ahead of that there is no next one.
		w = changedRegions(t, w, func(w *impl.RegWorld) { w.Sites[c.site].Leads, w.Sites[c.site].Back = true, nil })
		occurs(t, w, regTake(c.site), 6)
		w = passes(t, w, fmt.Sprintf("fall %d", c.site))
		occurs(t, w, regTake(c.site), 7)
	}
}

func TestWordsAreSentAndLost(t *testing.T) {
	w := passes(t, regions(t, placesFlow), "begin 0 x 0 2|send 0|send 1|signal 0 x 7 go 1|send 0|fall 1|send 1=7|rise 1|send 1|send 0|send 0|send 0=4|send 1=4")
	terms := func(w impl.RegWorld) string {
		text := ""
		for _, word := range w.Radio {
			text += fmt.Sprint(word.To, len(word.Site.Runs), entriesBy(word.Site), word.Site.Leads, " ")
		}
		return text
	}
	if terms(w) != "1 1 2 true 0 0 0 false 1 1 3 true 0 0 0 false 1 1 3 true 1 1 3 true " {
		t.Errorf("%s", terms(w))
	}
	// What happens behind it does not change a word.
	x := passes(t, w, "signal 0 x 8 go 1|try 0 x 1|begin 0 y 0 3")
	if terms(x) != terms(w) {
		t.Errorf("%s", terms(x))
	}
	x = passes(t, w, "lose 6=5|lose -1=5|lose 1|lose 4|lose 4=5|lose 0|send 1|send 0|send 0|send 0=4")
	if terms(x) != "1 1 3 true 0 0 0 false 1 1 3 true 0 0 0 false 1 1 3 true 1 1 3 true " {
		t.Errorf("%s", terms(x))
	}
	if !sameSite(x.Sites[0], w.Sites[0]) || !sameSite(x.Sites[1], w.Sites[1]) {
		t.Errorf("%s", regShape(x))
	}
}

// A site that is down hears nothing, but the word is gone, if it is not kept.
func TestWordsToASiteThatIsDown(t *testing.T) {
	w := passes(t, regions(t, tinyFlow), "begin 0 x 0|send 0|fall 1")
	down := w.Sites[1]
	w = passes(t, w, "keep 0")
	if len(w.Radio) != 1 || !sameSite(w.Sites[1], down) {
		t.Errorf("%s", regShape(w))
	}
	gone := passes(t, w, "bring 0|bring 0=5")
	if len(gone.Radio) != 0 || !sameSite(gone.Sites[1], down) {
		t.Errorf("%s", regShape(gone))
	}
	w = passes(t, w, "rise 1|rise 1|keep 0")
	if len(w.Radio) != 1 || len(w.Sites[1].Runs) != 1 || !w.Sites[1].Up {
		t.Errorf("%s", regShape(w))
	}
	// One that falls keeps all that it has, and that it leads.
	w = passes(t, w, "fall 0|fall 0=7")
	regBoards(t, w, "site 0 term 2 leads down, 0 back, 0 late|  x done 1, 2 written, tokens|site 1 term 2, 0 back, 0 late|  x done 1, 2 written, tokens")
}

// wordTo is a world in which a word is under way to a site.
func wordTo(t *testing.T, site, heard impl.RegSite) impl.RegWorld {
	t.Helper()
	return changedRegions(t, regions(t, boxFlow, tinyFlow, hurryFlow), func(w *impl.RegWorld) {
		w.Sites[0] = site
		w.Radio = []impl.RegWord{{To: 0, Site: heard}}
	})
}

// boxRun is a run of boxFlow to which signals of these tokens came.
func boxRun(t *testing.T, name string, tokens ...int) impl.RegRun {
	t.Helper()
	list := "start"
	for _, token := range tokens {
		list += fmt.Sprint("|signal go ", token%90)
	}
	return impl.RegRun{Name: name, Hist: hist(t, list), Tokens: tokens}
}

// A word is followed by its term, and, of one's own, if one does not lead, and has not more.
func TestWordsThatAreFollowed(t *testing.T) {
	own := []impl.RegRun{boxRun(t, "x", 7, 8)}
	for _, c := range []struct {
		what          string
		term          int
		tokens, late  []int
		ledBy, itself bool
		follows       bool
	}{
		{"greater, shorter", 6, nil, nil, true, false, true},
		{"greater, longer", 6, []int{7, 8, 9}, nil, true, false, true},
		{"greater, to one that leads", 6, nil, nil, true, true, true},
		{"the last, to one that leads", 9999, nil, nil, true, true, true},
		{"greater, of one that does not lead", 6, []int{7, 8, 9}, nil, false, false, false},
		{"greater, of one that does not lead, to one that leads", 6, []int{7, 8, 9}, nil, false, true, false},
		{"the same, shorter", 5, []int{7}, nil, true, false, false},
		{"the same, as long", 5, []int{7, 9}, nil, true, false, true},
		{"the same, longer", 5, []int{7, 8, 9}, nil, true, false, true},
		{"the same, shorter, but more late", 5, []int{7}, []int{11}, true, false, true},
		{"the same, nothing, but much late", 5, nil, []int{11, 12, 13, 14}, true, false, true},
		{"the same, longer, to one that leads", 5, []int{7, 8, 9}, nil, true, true, false},
		{"the same, longer, of one that does not lead", 5, []int{7, 8, 9}, nil, false, false, false},
		{"smaller, longer", 4, []int{7, 8, 9}, []int{11}, true, false, false},
		{"smaller, longer, to one that leads", 4, []int{7, 8, 9}, []int{11}, true, true, false},
		{"of no term", 0, []int{7, 8, 9}, []int{11}, true, false, false},
	} {
		heard := impl.RegSite{Up: true, Term: c.term, Leads: c.ledBy, Runs: []impl.RegRun{boxRun(t, "x", c.tokens...)}, Late: c.late}
		site := impl.RegSite{Up: true, Term: 5, Leads: c.itself, Runs: own, Late: nil}
		w := wordTo(t, site, heard)
		x := occurs(t, w, regBring(0), 0)
		if followsBy(w.Sites[0], heard) != c.follows {
			t.Errorf("%s: followed by hand is not %v", c.what, c.follows)
		}
		want := site
		if c.follows {
			want = impl.RegSite{Up: true, Term: c.term, Runs: heard.Runs, Late: c.late}
			for _, token := range []int{7, 8} {
				if !slices.Contains(c.tokens, token) && !slices.Contains(c.late, token) {
					want.Back = append(want.Back, impl.RegBack{Run: "x", Token: token, Name: "go", Num: token})
				}
			}
		}
		if !sameSite(x.Sites[0], want) || !sameSite(x.Sites[1], w.Sites[1]) {
			t.Errorf("%s: %s", c.what, regShape(x))
		}
	}
	// Late of one's own counts, too.
	for late, follows := range map[string]bool{"": true, "1": true, "1 2": false} {
		site := impl.RegSite{Up: true, Term: 5, Runs: []impl.RegRun{boxRun(t, "x", 7)}}
		for _, one := range strings.Fields(late) {
			site.Late = append(site.Late, int(one[0]-'0'))
		}
		x := occurs(t, wordTo(t, site, impl.RegSite{Term: 5, Leads: true, Runs: []impl.RegRun{boxRun(t, "x", 7, 8)}}), regBring(0), 0)
		if (len(x.Sites[0].Runs[0].Tokens) == 2) != follows || !x.Sites[0].Up {
			t.Errorf("%q late: %s", late, regShape(x))
		}
	}
}

// Whoever hears a word of a site that was down, or falls since, is up all the same.
func TestWordsOfASiteThatWasDown(t *testing.T) {
	w := wordTo(t, impl.RegSite{Up: true, Term: 2}, impl.RegSite{Up: false, Term: 3, Leads: true, Runs: []impl.RegRun{boxRun(t, "x", 7)}})
	x := occurs(t, w, regBring(0), 0)
	if s := x.Sites[0]; !s.Up || s.Leads || s.Term != 3 || len(s.Runs) != 1 {
		t.Errorf("%s", regShape(x))
	}
}

// A word of one that does not lead is for one that leads: that takes what is given back, whatever the terms.
func TestWordsOfOneThatDoesNotLead(t *testing.T) {
	back := []impl.RegBack{{Run: "y", Flow: 1}, {Run: "x", Token: 9, Name: "go", Num: 9}}
	for _, term := range []int{0, 4, 5, 6, 9999} {
		for _, leads := range []bool{false, true} {
			for _, gives := range [][]impl.RegBack{nil, back} {
				site := impl.RegSite{Up: true, Term: 5, Leads: leads, Runs: []impl.RegRun{boxRun(t, "x", 7)}}
				heard := impl.RegSite{Up: true, Term: term, Runs: []impl.RegRun{boxRun(t, "x", 7, 8), boxRun(t, "z", 5)}, Back: gives, Late: []int{4}}
				x := occurs(t, wordTo(t, site, heard), regBring(0), 0)
				want := site
				if leads && gives != nil {
					want.Runs = []impl.RegRun{boxRun(t, "x", 7, 9), {Name: "y", Flow: 1, Hist: hist(t, "start|end 1 1")}}
				}
				if !sameSite(x.Sites[0], want) || len(x.Answered) != 0 {
					t.Errorf("term %d, leads %v, gives %v: %s", term, leads, gives, regShape(x))
				}
			}
		}
	}
}

// takesBack is a site that leads behind what was given back to it, by a word, and by its own Back when it took the lead.
func takesBack(t *testing.T, site impl.RegSite, back ...impl.RegBack) impl.RegSite {
	t.Helper()
	site.Up, site.Term, site.Leads = true, 4, true
	heard := occurs(t, wordTo(t, site, impl.RegSite{Term: 3, Back: back}), regBring(0), 0)
	own := site
	own.Term, own.Leads, own.Back = 3, false, back
	taken := occurs(t, wordTo(t, own, impl.RegSite{}), regTake(0), 0)
	if !sameSite(heard.Sites[0], taken.Sites[0]) || len(heard.Answered)+len(taken.Answered) != 0 {
		t.Errorf("heard %s, taken %s", regShape(heard), regShape(taken))
	}
	return taken.Sites[0]
}

func given(run string, token int) impl.RegBack {
	return impl.RegBack{Run: run, Token: token, Name: "go", Num: token % 90}
}

func TestWhatIsGivenBack(t *testing.T) {
	x := boxRun(t, "x", 7)
	site := impl.RegSite{Runs: []impl.RegRun{x}, Late: []int{5}}
	ended := impl.RegRun{Name: "e", Flow: 1, Hist: hist(t, "start|end 1 1")}
	for _, c := range []struct {
		what string
		back []impl.RegBack
		runs []impl.RegRun
		late []int
	}{
		{"nothing", nil, []impl.RegRun{x}, []int{5}},
		{"a run", []impl.RegBack{{Run: "e", Flow: 1}}, []impl.RegRun{ended, x}, []int{5}},
		{"a run that is there", []impl.RegBack{{Run: "x", Flow: 1}}, []impl.RegRun{x}, []int{5}},
		{"a run twice, by two flows", []impl.RegBack{{Run: "e", Flow: 1}, {Run: "e"}}, []impl.RegRun{ended, x}, []int{5}},
		{"a signal", []impl.RegBack{given("x", 8)}, []impl.RegRun{boxRun(t, "x", 7, 8)}, []int{5}},
		{"signals, in order", []impl.RegBack{given("x", 9), given("x", 8)}, []impl.RegRun{boxRun(t, "x", 7, 9, 8)}, []int{5}},
		{"a signal that is known", []impl.RegBack{given("x", 7)}, []impl.RegRun{x}, []int{5}},
		{"one that is known by Late alone", []impl.RegBack{given("x", 5)}, []impl.RegRun{x}, []int{5}},
		{"one that is known, for another run", []impl.RegBack{given("nobody", 7)}, []impl.RegRun{x}, []int{5}},
		{"one that comes twice", []impl.RegBack{given("x", 8), given("x", 8)}, []impl.RegRun{boxRun(t, "x", 7, 8)}, []int{5}},
		{"one that comes twice, for two runs", []impl.RegBack{given("nobody", 8), given("x", 8)}, []impl.RegRun{x}, []int{5, 8}},
		{"for a run that is not there", []impl.RegBack{given("y", 8)}, []impl.RegRun{x}, []int{5, 8}},
		{"behind the beginning of its run", []impl.RegBack{{Run: "y"}, given("y", 8)}, []impl.RegRun{x, boxRun(t, "y", 8)}, []int{5}},
		{"ahead of the beginning of its run", []impl.RegBack{given("y", 8), {Run: "y"}}, []impl.RegRun{x, boxRun(t, "y")}, []int{5, 8}},
		{"for a run that has ended", []impl.RegBack{{Run: "e", Flow: 1}, given("e", 8)}, []impl.RegRun{ended, x}, []int{5, 8}},
		{"by which it ends, and more", []impl.RegBack{{Run: "x", Token: 99, Name: "go", Num: 99}, given("x", 8)}, []impl.RegRun{{Name: "x", Hist: hist(t, "start|signal go 7|signal go 99|end 1 99"), Tokens: []int{7, 99}}}, []int{5, 8}},
	} {
		if got := takesBack(t, site, c.back...); !sameSite(got, impl.RegSite{Up: true, Term: 4, Leads: true, Runs: c.runs, Late: c.late}) {
			t.Errorf("%s: %+v", c.what, got)
		}
	}
}

// What finds no room: a run when RegMaxRuns are there, a signal for a run that has RegMaxTokens, for a box, or a history, that is full, and one more that is late.
func TestWhatIsGivenBackAndFindsNoRoom(t *testing.T) {
	three := impl.RegSite{Runs: []impl.RegRun{boxRun(t, "a"), boxRun(t, "b"), boxRun(t, "c")}}
	got := takesBack(t, three, impl.RegBack{Run: "d"}, impl.RegBack{Run: "e"}, given("d", 8), given("e", 9), given("a", 10))
	if len(got.Runs) != 4 || got.Runs[3].Name != "d" || !slices.Equal(got.Runs[3].Tokens, []int{8}) || !slices.Equal(got.Late, []int{9}) || !slices.Equal(got.Runs[0].Tokens, []int{10}) {
		t.Errorf("%+v", got)
	}
	full := impl.RegSite{Runs: []impl.RegRun{boxRun(t, "x", manyTokens(39)...)}}
	got = takesBack(t, full, given("x", 1), given("x", 2), given("x", 1))
	if len(got.Runs[0].Tokens) != 40 || !slices.Equal(got.Late, []int{2}) {
		t.Errorf("%+v", got)
	}
	box := boxRun(t, "x")
	for n := range 19 {
		box.Hist, box.Tokens = append(box.Hist, hist(t, "signal no 1")...), append(box.Tokens, 101+n)
	}
	no := func(token int) impl.RegBack { return impl.RegBack{Run: "x", Token: token, Name: "no", Num: 1} }
	got = takesBack(t, impl.RegSite{Runs: []impl.RegRun{box}}, no(1), no(2), given("x", 3))
	if len(got.Runs[0].Tokens) != 20 || !slices.Equal(got.Late, []int{2, 3}) {
		t.Errorf("%+v", got)
	}
	late := func(count int) impl.RegSite {
		return impl.RegSite{Runs: []impl.RegRun{boxRun(t, "x")}, Late: manyTokens(count)}
	}
	if got = takesBack(t, late(39), given("y", 1), given("y", 2), given("x", 2)); !slices.Equal(got.Late, append(manyTokens(39), 1)) || !slices.Equal(got.Runs[0].Tokens, []int{2}) {
		t.Errorf("%+v", got)
	}
	// What found no room is not known, and may find some for another run.
	if got = takesBack(t, late(40), given("y", 1), given("x", 1), given("x", 101)); !slices.Equal(got.Late, manyTokens(40)) || !slices.Equal(got.Runs[0].Tokens, []int{1}) {
		t.Errorf("%+v", got)
	}
}

// A history that is full makes what is given back too late.
func TestWhatIsGivenBackToAHistoryThatIsFull(t *testing.T) {
	loop := "workflow w|let n is 0|while n less 300|do a pay n|let n add n 1|end|return n"
	w := passes(t, regions(t, loop), "begin 0 x 0")
	w = changedRegions(t, w, func(w *impl.RegWorld) {
		x := &w.Sites[0].Runs[0]
		for n := 1; len(x.Hist) < 398; n++ {
			x.Hist, _ = impl.HistMore(w.Flows[0], x.Hist, done(n, 1))
		}
		w.Radio = []impl.RegWord{{Site: impl.RegSite{Back: []impl.RegBack{given("x", 1), given("x", 2), given("x", 3)}}}}
	})
	w = passes(t, w, "bring 0")
	if s := w.Sites[0]; len(s.Runs[0].Hist) != 400 || !slices.Equal(s.Runs[0].Tokens, []int{1, 2}) || !slices.Equal(s.Late, []int{3}) {
		t.Errorf("%s", regBoardBy(w))
	}
}

// follows is the Back of a site that follows a word.
func follows(t *testing.T, site, heard impl.RegSite) []impl.RegBack {
	t.Helper()
	site.Up, heard.Leads, heard.Term = true, true, site.Term+1
	return occurs(t, wordTo(t, site, heard), regBring(0), 0).Sites[0].Back
}

func backs(list []impl.RegBack) string {
	var all []string
	for _, b := range list {
		if b.Token == 0 {
			all = append(all, fmt.Sprintf("%s begins %d%v", b.Run, b.Flow, b.Args))
		} else {
			all = append(all, fmt.Sprint(b.Run, " ", b.Token, " ", b.Name, " ", b.Num))
		}
	}
	return strings.Join(all, ", ")
}

// Of what a site had to give back, and then of its own, is given back what whom it follows does not know.
func TestWhatIsToBeGivenBack(t *testing.T) {
	own := []impl.RegRun{boxRun(t, "x", 7, 8), boxRun(t, "y", 9)}
	for _, c := range []struct {
		what        string
		site, heard impl.RegSite
		back        string
	}{
		{"all is known", impl.RegSite{Runs: own}, impl.RegSite{Runs: own}, ""},
		{"nothing is known", impl.RegSite{Runs: own}, impl.RegSite{}, "x begins 0[], x 7 go 7, x 8 go 8, y begins 0[], y 9 go 9"},
		{"a run is known", impl.RegSite{Runs: own}, impl.RegSite{Runs: []impl.RegRun{boxRun(t, "x")}}, "x 7 go 7, x 8 go 8, y begins 0[], y 9 go 9"},
		{"a signal is known", impl.RegSite{Runs: own}, impl.RegSite{Runs: []impl.RegRun{boxRun(t, "y", 8)}}, "x begins 0[], x 7 go 7, y 9 go 9"},
		{"signals are known as too late", impl.RegSite{Runs: own}, impl.RegSite{Late: []int{7, 9}}, "x begins 0[], x 8 go 8, y begins 0[]"},
		{"what is late of its own is not", impl.RegSite{Late: []int{5}}, impl.RegSite{}, ""},
		{"its Back first", impl.RegSite{Back: []impl.RegBack{given("z", 5), {Run: "z"}}, Runs: own[1:]}, impl.RegSite{}, "z 5 go 5, z begins 0[], y begins 0[], y 9 go 9"},
		{"its Back is known", impl.RegSite{Back: []impl.RegBack{given("z", 5), {Run: "z"}, given("z", 6)}}, impl.RegSite{Runs: []impl.RegRun{boxRun(t, "z", 6)}, Late: []int{5}}, ""},
		{"its Back is its own, too", impl.RegSite{Back: []impl.RegBack{given("y", 9), {Run: "y", Flow: 1}}, Runs: own[1:]}, impl.RegSite{}, "y 9 go 9, y begins 1[]"},
		{"its Back twice", impl.RegSite{Back: []impl.RegBack{given("y", 9), {Run: "z"}, given("y", 9), {Run: "z", Flow: 1}, {Run: "y", Token: 9, Name: "no", Num: 3}}}, impl.RegSite{}, "y 9 go 9, z begins 0[]"},
		{"a token for two runs", impl.RegSite{Back: []impl.RegBack{given("z", 9)}, Runs: own[1:]}, impl.RegSite{}, "z 9 go 9, y begins 0[], y 9 go 9"},
		{"a token for two runs, known", impl.RegSite{Back: []impl.RegBack{given("z", 9)}, Runs: own[1:]}, impl.RegSite{Runs: []impl.RegRun{boxRun(t, "x", 9)}}, "y begins 0[]"},
	} {
		if got := backs(follows(t, c.site, c.heard)); got != c.back {
			t.Errorf("%s: %s", c.what, got)
		}
		// A site that leads has no Back, but what is its own.
		if len(c.site.Back) == 0 {
			leads := c.site
			leads.Leads = true
			if got := backs(follows(t, leads, c.heard)); got != c.back {
				t.Errorf("%s, of one that leads: %s", c.what, got)
			}
		}
	}
	// What a run asked, and what else came to it, is not given back.
	w := passes(t, regions(t, placesFlow), "begin 0 x 0 2|signal 0 x 7 no 5|try 0 x 1|signal 0 x 8 go 6|take 1|send 1|bring 0")
	if got := backs(w.Sites[0].Back); got != "x begins 0[2], x 7 no 5, x 8 go 6" {
		t.Errorf("%s", got)
	}
	w = passes(t, w, "send 0|bring 0|send 1|bring 0")
	regBoards(t, w, "site 0 term 3, 0 back, 0 late|  x live 0, 4 written, tokens 7 8|site 1 term 3 leads, 0 back, 0 late|  x live 0, 4 written, tokens 7 8|x/0 3, tried 1")
}

// Of what is to be given back the first RegMaxTokens + RegMaxRuns stay.
func TestBackIsFull(t *testing.T) {
	var back []impl.RegBack
	for _, token := range manyTokens(44) {
		back = append(back, given("z", token))
	}
	own := []impl.RegRun{boxRun(t, "x", 7)}
	for _, c := range []struct {
		count int
		late  []int
		last  string
	}{
		{41, nil, "z 141 go 51, x begins 0[], x 7 go 7"}, {42, nil, "z 142 go 52, x begins 0[], x 7 go 7"}, {43, nil, "z 142 go 52, z 143 go 53, x begins 0[]"}, {44, nil, "z 142 go 52, z 143 go 53, z 144 go 54"},
		// What is known makes room.
		{44, []int{101}, "z 143 go 53, z 144 go 54, x begins 0[]"}, {44, []int{101, 102}, "z 144 go 54, x begins 0[], x 7 go 7"}, {44, []int{101, 102, 7}, "z 143 go 53, z 144 go 54, x begins 0[]"},
	} {
		got := follows(t, impl.RegSite{Back: back[:c.count], Runs: own}, impl.RegSite{Late: c.late})
		if len(got) > 44 || backs(got[len(got)-3:]) != c.last {
			t.Errorf("%d, %v late: %d, %s", c.count, c.late, len(got), backs(got))
		}
	}
	// What comes again takes no room.
	again := follows(t, impl.RegSite{Back: append(slices.Repeat(back[:1], 43), back[1]), Runs: own}, impl.RegSite{})
	if backs(again) != "z 101 go 11, z 102 go 12, x begins 0[], x 7 go 7" {
		t.Errorf("%s", backs(again))
	}
}

// A word that is kept may be heard again: at once it changes nothing, and later, if more is known by then, neither.
func TestWordsThatAreKept(t *testing.T) {
	w := passes(t, regions(t, boxFlow), "begin 0 x 0|send 0|signal 0 x 7 go 1|send 0|begin 0 y 0|send 0")
	twice := func(w impl.RegWorld, word int) impl.RegWorld {
		t.Helper()
		once := passes(t, w, fmt.Sprint("keep ", word))
		if len(once.Radio) != len(w.Radio) {
			t.Errorf("word %d: %s", word, regShape(once))
		}
		again := passes(t, once, fmt.Sprint("keep ", word))
		if !sameReg(again, once) {
			t.Errorf("word %d: %s became %s", word, regShape(once), regShape(again))
		}
		return once
	}
	for word := range 3 {
		w = twice(w, word)
	}
	if s := w.Sites[1]; len(s.Runs) != 2 || !slices.Equal(s.Runs[0].Tokens, []int{7}) || len(s.Back) != 0 {
		t.Errorf("%s", regShape(w))
	}
	// The older ones are shorter, and are not followed any more.
	for word := 2; word >= 0; word-- {
		if x := twice(w, word); !sameReg(x, w) {
			t.Errorf("word %d: %s", word, regShape(x))
		}
	}
	// What is given back counts once, though its word comes twice, and though it is known while it is on its way back.
	w = passes(t, w, "lose 0|lose 0|lose 0|signal 0 x 8 go 2|take 1|send 1|bring 0|send 0|send 0")
	w = twice(w, 0)
	w = twice(w, 1)
	if s := w.Sites[1]; !slices.Equal(s.Runs[0].Tokens, []int{7, 8}) || len(s.Late) != 0 || len(w.Sites[0].Back) != 1 {
		t.Errorf("%s", regShape(w))
	}
	w = passes(t, w, "take 0|bring 0|bring 0|send 0|bring 0")
	if s := w.Sites[1]; !slices.Equal(s.Runs[0].Tokens, []int{7, 8}) || s.Term != 4 || s.Leads || len(s.Back) != 0 || !impl.RegOne(w) {
		t.Errorf("%s", regShape(w))
	}
}

package tests

import (
	"fmt"
	"math"
	"slices"
	"strings"
	"testing"

	"loop.example/dunlin/impl"
)

// The example of chapter 63, word for word.
func TestRegionsChangePlaces(t *testing.T) {
	w := regions(t, "workflow order n|do a pay n|get b go|get c go|return b")
	w = passes(t, w, "begin 0 x 0 2|send 0|bring 0|try 0 x 1|signal 0 x 7 go 5|take 1|try 1 x 1|signal 1 x 8 go 6|send 1|bring 0")
	regBoards(t, w, "site 0 term 3, 1 back, 0 late|  x live 0, 4 written, tokens 8|site 1 term 3 leads, 0 back, 0 late|  x live 0, 4 written, tokens 8|x/0 3, tried 2")
	if impl.RegOne(w) || !impl.RegSafe(w) {
		t.Errorf("%s", regShape(w))
	}
	w = quiets(t, w, 2)
	regBoards(t, w, "site 0 term 3, 0 back, 0 late|  x done 6, 6 written, tokens 8 7|site 1 term 3 leads, 0 back, 0 late|  x done 6, 6 written, tokens 8 7|x/0 3, tried 2")
	if !impl.RegOne(w) || !impl.RegSafe(w) {
		t.Errorf("%s", regShape(w))
	}
}

// A signal for a run that ended at the other region is too late at both, and not forgotten.
func TestSignalsThatCameTooLate(t *testing.T) {
	w := passes(t, regions(t, hurryFlow), "begin 0 x 0|send 0|keep 0|signal 0 x 7 go 5|fall 0|take 1|fire 1 x 1|rise 0")
	regBoards(t, w, "site 0 term 2 leads, 0 back, 0 late|  x done 5, 4 written, tokens 7|site 1 term 3 leads, 0 back, 0 late|  x done -1, 4 written, tokens")
	w = quiets(t, w, 1)
	regBoards(t, w, "site 0 term 3, 1 back, 0 late|  x done -1, 4 written, tokens|site 1 term 3 leads, 0 back, 0 late|  x done -1, 4 written, tokens")
	w = quiets(t, w, 1)
	regBoards(t, w, "site 0 term 3, 1 back, 0 late|  x done -1, 4 written, tokens|site 1 term 3 leads, 0 back, 1 late|  x done -1, 4 written, tokens")
	if impl.RegOne(w) {
		t.Error("one, with something to give back")
	}
	w = quiets(t, w, 1)
	regBoards(t, w, "site 0 term 3, 0 back, 1 late|  x done -1, 4 written, tokens|site 1 term 3 leads, 0 back, 1 late|  x done -1, 4 written, tokens")
	if !impl.RegOne(w) || !slices.Equal(w.Sites[0].Late, []int{7}) {
		t.Errorf("%s", regShape(w))
	}
}

func TestBoardsOfRegions(t *testing.T) {
	w := passes(t, regions(t, placesFlow, "workflow w n|do a x n undo y|do b x a|fail n", "workflow w n|next n"), "begin 0 a 1 -7|begin 0 b 2 5|begin 0 x 0 2|try 0 a 1|fall 0|fall 1")
	regBoards(t, w, "site 0 term 2 leads down, 0 back, 0 late|  a live 0, 4 written, tokens|  b anew 0, 2 written, tokens|  x live 0, 2 written, tokens|site 1 term 2 down, 0 back, 0 late|a/0 0, tried 1")
	w = passes(t, w, "rise 0|try 0 a 2|try 0 a 3|signal 0 x 9223372036854775807 no -9999|signal 0 x 3 no 0")
	regBoards(t, w, "site 0 term 2 leads, 0 back, 0 late|  a failed -7, 8 written, tokens|  b anew 0, 2 written, tokens|  x live 0, 4 written, tokens 9223372036854775807 3|site 1 term 2 down, 0 back, 0 late|a/0 0, tried 1|a/0- 0, tried 1|a/1 4, tried 1")
	w = changedRegions(t, w, func(w *impl.RegWorld) {
		w.Sites[1] = impl.RegSite{Back: []impl.RegBack{{Run: "q", Flow: 2, Args: []int{1}}, given("q", 4)}, Late: []int{1, 2, 3}}
		w.Effects = []impl.RegEffect{{Key: "any thing\n", Answer: -9999, Tries: 9999}}
		w.Answered = []int{5, 6}
		w.Radio = []impl.RegWord{{To: 1}}
	})
	want := "site 0 term 2 leads, 0 back, 0 late\n  a failed -7, 8 written, tokens\n  b anew 0, 2 written, tokens\n  x live 0, 4 written, tokens 9223372036854775807 3\nsite 1 term 0 down, 2 back, 3 late\nany thing\n -9999, tried 9999\n"
	if impl.RegBoard(w) != want {
		t.Errorf("%q", impl.RegBoard(w))
	}
}

// safeIs asks whether a world that is ok is safe.
func safeIs(t *testing.T, what string, w impl.RegWorld, want bool, change func(w *impl.RegWorld)) {
	t.Helper()
	w = changedRegions(t, w, change)
	if impl.RegSafe(w) != want || regSafeBy(w) != want {
		t.Errorf("%s: safe is not %v, by hand %v", what, want, regSafeBy(w))
	}
}

func TestRegionsThatAreSafe(t *testing.T) {
	w := fullRegions(t)
	leads := func(first, second int) func(w *impl.RegWorld) {
		return func(w *impl.RegWorld) {
			w.Sites[0].Leads, w.Sites[0].Term, w.Sites[0].Back, w.Sites[1].Term = true, first, nil, second
			w.Answered = nil
		}
	}
	safeIs(t, "as it is", w, true, func(w *impl.RegWorld) {})
	safeIs(t, "both lead by one term", w, false, leads(3, 3))
	safeIs(t, "both lead by two", w, true, leads(2, 3))
	safeIs(t, "both lead by others", w, true, leads(4, 3))
	safeIs(t, "both lead by one, down", w, false, func(w *impl.RegWorld) { leads(0, 0)(w); w.Sites[0].Up, w.Sites[1].Up = false, false })
	safeIs(t, "none leads", w, true, func(w *impl.RegWorld) { w.Sites[1].Leads = false })
	// What was done must be done in the world, by its key, with that answer, at each site.
	effect := func(key string, answer int) func(w *impl.RegWorld) {
		return func(w *impl.RegWorld) { w.Effects = []impl.RegEffect{{Key: key, Answer: answer, Tries: 5}} }
	}
	safeIs(t, "done otherwise", w, true, effect("x/0", 3))
	safeIs(t, "done with another answer", w, false, effect("x/0", 4))
	safeIs(t, "done by another key", w, false, effect("x/1", 3))
	safeIs(t, "done by another run", w, false, effect("y/0", 3))
	safeIs(t, "not done", w, false, func(w *impl.RegWorld) { w.Effects = nil })
	safeIs(t, "not done, at the first site alone", w, false, func(w *impl.RegWorld) { w.Effects, w.Sites[1].Runs, w.Answered = nil, nil, nil })
	safeIs(t, "not done, at the second site alone", w, false, func(w *impl.RegWorld) { w.Effects, w.Sites[0].Runs, w.Answered = nil, nil, nil })
	safeIs(t, "not done, as words say", w, true, func(w *impl.RegWorld) {
		w.Effects, w.Sites[0].Runs, w.Sites[1].Runs, w.Answered = nil, nil, nil, nil
	})
	safeIs(t, "another answer at one site", w, false, func(w *impl.RegWorld) { w.Sites[0].Runs[0].Hist[2].Nums[0] = 4 })
	safeIs(t, "another answer in a word", w, true, func(w *impl.RegWorld) { w.Radio[0].Site.Runs[0].Hist[2].Nums[0] = 4 })
	// Of two asks each has the effect of its own key.
	two := passes(t, regions(t, "workflow w|do a p|do b q|do c q 1|return a"), "begin 0 x 0|try 0 x 1|try 0 x 2|try 0 x 3")
	safeIs(t, "three were done", two, true, func(w *impl.RegWorld) {})
	for i := range 3 {
		safeIs(t, "one with another answer", two, false, func(w *impl.RegWorld) { w.Effects[i].Answer = 77 })
		safeIs(t, "one not done", two, false, func(w *impl.RegWorld) { w.Effects = slices.Delete(w.Effects, i, i+1) })
	}
	broken := func(w *impl.RegWorld) {
		w.Effects = nil
		w.Sites[0].Runs[0].Hist = hist(t, "start|ask 1 0 p|broke 1 4|end 2 4")
	}
	safeIs(t, "what broke was not done", two, true, broken)
}

func TestWhatWasAnsweredIsNotForgotten(t *testing.T) {
	x := boxRun(t, "x", 7)
	for _, c := range []struct {
		what  string
		site  impl.RegSite
		token int
		safe  bool
	}{
		{"in a run", impl.RegSite{Runs: []impl.RegRun{x}}, 7, true},
		{"in another run", impl.RegSite{Runs: []impl.RegRun{boxRun(t, "a", 5), x}}, 7, true},
		{"too late", impl.RegSite{Late: []int{5, 7}}, 7, true},
		{"to be given back", impl.RegSite{Back: []impl.RegBack{{Run: "x"}, given("x", 7)}}, 7, true},
		{"nowhere", impl.RegSite{Runs: []impl.RegRun{x}, Late: []int{5}, Back: []impl.RegBack{{Run: "x"}, given("x", 6)}}, 8, false},
		{"a beginning alone", impl.RegSite{Back: []impl.RegBack{{Run: "x"}}}, 7, false},
	} {
		for site := range 2 {
			w := changedRegions(t, regions(t, boxFlow), func(w *impl.RegWorld) {
				w.Sites[site], w.Answered = c.site, []int{c.token}
				w.Sites[1-site].Leads = false
			})
			safeIs(t, fmt.Sprint(c.what, " at ", site), w, c.safe, func(w *impl.RegWorld) {})
			safeIs(t, fmt.Sprint(c.what, " at ", site, ", and one nowhere"), w, false, func(w *impl.RegWorld) { w.Answered = append(w.Answered, 9) })
			safeIs(t, fmt.Sprint(c.what, " in a word alone"), w, false, func(w *impl.RegWorld) {
				w.Radio, w.Sites[site] = []impl.RegWord{{To: 1 - site, Site: w.Sites[site]}}, impl.RegSite{}
			})
		}
	}
}

func TestRegionsThatAreOne(t *testing.T) {
	both := []impl.RegRun{boxRun(t, "x", 7), {Name: "z", Flow: 1, Args: []int{3}, Hist: hist(t, "start 3|end 1 3")}}
	w := changedRegions(t, regions(t, boxFlow, "workflow w n|return n"), func(w *impl.RegWorld) {
		for site := range 2 {
			w.Sites[site] = copySite(impl.RegSite{Up: true, Term: 5, Leads: site == 1, Runs: both, Late: []int{4, 3}})
		}
	})
	for _, c := range []struct {
		what   string
		one    bool
		change func(w *impl.RegWorld)
	}{
		{"as it is", true, func(w *impl.RegWorld) {}},
		{"the other one leads", true, func(w *impl.RegWorld) { w.Sites[0].Leads, w.Sites[1].Leads = true, false }},
		{"one is down", true, func(w *impl.RegWorld) { w.Sites[0].Up = false }},
		{"words are under way", true, func(w *impl.RegWorld) { w.Radio = []impl.RegWord{{To: 1}} }},
		{"answered are others", true, func(w *impl.RegWorld) { w.Answered = []int{99} }},
		{"both lead", false, func(w *impl.RegWorld) { w.Sites[0].Leads = true }},
		{"none leads", false, func(w *impl.RegWorld) { w.Sites[1].Leads = false }},
		{"two terms", false, func(w *impl.RegWorld) { w.Sites[0].Term = 4 }},
		{"back at the one that follows", false, func(w *impl.RegWorld) { w.Sites[0].Back = []impl.RegBack{given("x", 7)} }},
		{"back at the second", false, func(w *impl.RegWorld) {
			w.Sites[0].Leads, w.Sites[1].Leads, w.Sites[1].Back = true, false, []impl.RegBack{{Run: "x"}}
		}},
		{"back at both", false, func(w *impl.RegWorld) {
			w.Sites[1].Leads, w.Sites[0].Back, w.Sites[1].Back = false, []impl.RegBack{{Run: "x"}}, []impl.RegBack{{Run: "x"}}
		}},
		{"one less late", false, func(w *impl.RegWorld) { w.Sites[0].Late = []int{4} }},
		{"late in another order", false, func(w *impl.RegWorld) { w.Sites[0].Late = []int{3, 4} }},
		{"a run less", false, func(w *impl.RegWorld) { w.Sites[1].Runs = w.Sites[1].Runs[:1] }},
		{"a run of another name", false, func(w *impl.RegWorld) { w.Sites[1].Runs[0].Name = "y" }},
		{"a run of another flow", false, func(w *impl.RegWorld) { w.Flows = append(w.Flows, w.Flows[1]); w.Sites[1].Runs[1].Flow = 2 }},
		{"a run with other args", false, func(w *impl.RegWorld) {
			w.Sites[1].Runs[1].Args, w.Sites[1].Runs[1].Hist = []int{4}, hist(t, "start 4|end 1 4")
		}},
		{"another token", false, func(w *impl.RegWorld) { w.Sites[1].Runs[0].Tokens[0] = 8 }},
		{"another number of a signal", false, func(w *impl.RegWorld) { w.Sites[1].Runs[0].Hist[1].Nums[0] = 8 }},
		{"another signal", false, func(w *impl.RegWorld) { w.Sites[1].Runs[0].Hist[1].Name = "no" }},
		{"a longer history", false, func(w *impl.RegWorld) { w.Sites[1].Runs[0] = boxRun(t, "x", 7, 8) }},
	} {
		x := changedRegions(t, w, c.change)
		if impl.RegOne(x) != c.one || regOneBy(x) != c.one {
			t.Errorf("%s: one is not %v, by hand %v", c.what, c.one, regOneBy(x))
		}
	}
}

// No rounds, and fewer, are none; more than RegMaxCalm are RegMaxCalm.
func TestHowManyRoundsOfRegions(t *testing.T) {
	// The run is known to who goes on with it behind two rounds, and then two entries come in each, up to HistMaxLen.
	w := passes(t, regions(t, "workflow w|let n is 0|while n less 9000|let n add n 1|sleep 1|end|return n"), "begin 0 x 0|take 1|fall 1")
	for _, rounds := range []int{0, -1, -200, math.MinInt} {
		if x := quiets(t, w, rounds); !sameReg(x, w) {
			t.Errorf("%d rounds: %s", rounds, regShape(x))
		}
	}
	quiets(t, w, 5)
	written := func(rounds int) string {
		x := impl.RegCalm(w, rounds)
		text := ""
		for _, s := range x.Sites {
			text += fmt.Sprint(entriesBy(s), " ")
		}
		return text
	}
	for rounds, want := range map[int]string{0: "2 0 ", 1: "0 0 ", 2: "0 2 ", 3: "4 4 ", 4: "6 6 ", 198: "394 394 ", 199: "396 396 ", 200: "398 398 ", 201: "398 398 ", 202: "398 398 ", 1000: "398 398 ", math.MaxInt: "398 398 "} {
		if got := written(rounds); got != want {
			t.Errorf("%d rounds: %s", rounds, got)
		}
	}
	most := impl.RegCalm(w, 200)
	if x := impl.RegCalm(most, 1); entriesBy(x.Sites[1]) != 400 {
		t.Errorf("one round behind the most: %s", regBoardBy(x))
	}
	if x, y := impl.RegCalm(most, 2), impl.RegCalm(most, 3); entriesBy(x.Sites[1]) != 400 || !sameReg(x, y) {
		t.Errorf("a history that is full: %s", regBoardBy(y))
	}
}

// Both are up, and one leads: if none does, the one with the greater term, the first of two; if it has none left, none.
func TestCalmRoundsChooseWhoLeads(t *testing.T) {
	for _, c := range []struct {
		first, second int
		leads         string
		want          string
	}{
		{2, 2, "", "4 leads 4"}, {2, 3, "", "5 5 leads"}, {3, 2, "", "4 leads 4"}, {0, 0, "", "2 leads 2"}, {4, 5, "", "7 7 leads"}, {5, 4, "", "6 leads 6"},
		{9998, 9998, "", "9998 9998"}, {9999, 9999, "", "9999 9999"}, {9999, 0, "", "9999 0"}, {0, 9999, "", "0 9999"}, {9998, 9997, "", "9998 9997"}, {9997, 9998, "", "9999 9999 leads"},
		{2, 7, "first", "2 leads 7"}, {7, 2, "first", "7 leads 7"}, {7, 2, "second", "7 2 leads"}, {2, 7, "second", "7 7 leads"}, {6, 6, "first", "6 leads 6"}, {6, 6, "second", "6 6 leads"},
		{2, 7, "both", "7 7 leads"}, {8, 7, "both", "8 leads 8"}, {7, 7, "both", "7 leads 7 leads"},
	} {
		w := changedRegions(t, regions(t, tinyFlow), func(w *impl.RegWorld) {
			w.Sites[0] = impl.RegSite{Term: c.first, Leads: c.leads == "first" || c.leads == "both"}
			w.Sites[1] = impl.RegSite{Term: c.second, Leads: c.leads == "second" || c.leads == "both"}
		})
		x := quiets(t, w, 1)
		got := ""
		for _, s := range x.Sites {
			got += fmt.Sprint(" ", s.Term) + map[bool]string{true: " leads"}[s.Leads]
			if !s.Up {
				t.Errorf("%+v: down", c)
			}
		}
		if strings.TrimSpace(got) != c.want {
			t.Errorf("%+v: %s", c, got)
		}
		quiets(t, w, 4)
	}
}

// Of two that lead the one with the greater term goes on, the second, if they are the same; what has a code changes nothing.
func TestWhoGoesOnInCalmRounds(t *testing.T) {
	w := passes(t, regions(t, "workflow w n|do a x n|sleep 1|return a"), "begin 0 a 0 1|begin 0 b 0 2")
	w = changedRegions(t, w, func(w *impl.RegWorld) { w.Sites[1] = copySite(w.Sites[0]) })
	// By one term neither follows the other one, and the second goes on.
	one := quiets(t, w, 1)
	if len(one.Sites[0].Runs[0].Hist) != 2 || len(one.Sites[1].Runs[0].Hist) != 4 || len(one.Effects) != 2 {
		t.Errorf("%s", regBoardBy(one))
	}
	if x := quiets(t, w, 3); regStateBy(x, 1, "a").Stands != impl.RunDone || regStateBy(x, 0, "a").Stands != impl.RunLive || !x.Sites[0].Leads || !x.Sites[1].Leads {
		t.Errorf("%s", regBoardBy(x))
	}
	two := quiets(t, changedRegions(t, w, func(w *impl.RegWorld) { w.Sites[0].Term = 4 }), 2)
	if !impl.RegOne(two) || !two.Sites[0].Leads || regStateBy(two, 1, "b").Stands != impl.RunDone {
		t.Errorf("%s", regBoardBy(two))
	}
	// An effect that cannot be tried any more stays, and the others are gone on with.
	stuck := changedRegions(t, w, func(w *impl.RegWorld) {
		w.Sites[1].Leads, w.Effects = false, []impl.RegEffect{{Key: "a/0", Answer: 3, Tries: 9999}}
	})
	stuck = quiets(t, stuck, 3)
	if !impl.RegOne(stuck) || regStateBy(stuck, 1, "b").Stands != impl.RunDone || regStateBy(stuck, 1, "a").Stands != impl.RunLive || stuck.Effects[0].Tries != 9999 {
		t.Errorf("%s", regBoardBy(stuck))
	}
	// What is asked for by an answer waits for the next round, and what is not asked for any more changes nothing.
	ends := "workflow w|both|do a x|let m mul 9999 9999|and|do b y|end|return 0"
	w = passes(t, regions(t, ends), "begin 0 a 0")
	w = quiets(t, w, 1)
	if rows := rowsBy(w.Sites[0].Runs[0].Hist); len(w.Effects) != 1 || !strings.Contains(rows, "done 1") || strings.Contains(rows, "done 2") {
		t.Errorf("%s, %s", rows, regBoardBy(w))
	}
}

// Words that are under way are heard ahead of what a round does, the first first, and all that is sent in it behind that.
func TestWordsInCalmRounds(t *testing.T) {
	w := passes(t, regions(t, boxFlow, "workflow w n|do a x n|do b x a|return b"), "begin 0 x 0|send 0|signal 0 x 7 go 1|send 0|begin 0 y 1 3|send 0|send 1|send 0|send 1")
	if len(w.Radio) != 6 {
		t.Fatalf("%s", regShape(w))
	}
	x := quiets(t, w, 1)
	if len(x.Radio) != 0 || !impl.RegOne(x) || len(x.Sites[1].Runs) != 2 || len(x.Effects) != 1 {
		t.Errorf("%s", regBoardBy(x))
	}
	// An old word by which a site still leads is heard, and then what it took back is known at once.
	w = passes(t, regions(t, boxFlow), "begin 0 x 0|send 0|bring 0|signal 0 x 7 go 1|take 1|signal 1 x 8 go 2|send 1|bring 0|send 0|send 1|send 0|fall 0|fall 1")
	x = quiets(t, w, 1)
	if !impl.RegOne(x) || !slices.Equal(x.Sites[0].Runs[0].Tokens, []int{8, 7}) {
		t.Errorf("%s", regBoardBy(x))
	}
}

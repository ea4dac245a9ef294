package tests

import (
	"fmt"
	"math"
	"math/rand"
	"slices"
	"testing"

	"loop.example/dunlin/impl"
)

// regStep is something that happened to two regions.
type regStep struct {
	ahead  impl.RegWorld
	e      impl.RegEvent
	behind impl.RegWorld
	code   int
}

func (s regStep) fails(t *testing.T, what string) {
	t.Helper()
	t.Fatalf("%s: %+v, code %d\n%s\n%s", what, s.e, s.code, regShape(s.ahead), regShape(s.behind))
}

// brings is which site a word is brought to; -1 by what else happens.
func (s regStep) brings() int {
	if s.e.Kind != impl.RegBrings || s.code != 0 {
		return -1
	}
	return s.ahead.Radio[s.e.Id].To
}

// downStays asks that a site that is down does nothing, and hears nothing; a word to it is lost, unless it is kept.
func (s regStep) downStays(t *testing.T, seen map[string]int) {
	t.Helper()
	for site, down := range s.ahead.Sites {
		if down.Up {
			continue
		}
		what := []string{"down", "down, and led"}[map[bool]int{true: 1}[down.Leads]]
		seen[what]++
		want := copySite(down)
		of := s.e.Site == site && !slices.Contains([]int{impl.RegBrings, impl.RegLoses}, s.e.Kind)
		if of && s.e.Kind == impl.RegRises {
			want.Up = true
			seen["rises"]++
		}
		if !sameSite(s.behind.Sites[site], want) {
			s.fails(t, fmt.Sprint(site, " is down, and did not stay as it was"))
		}
		if of && s.e.Kind != impl.RegRises && between(1, 10, s.e.Kind) {
			seen[fmt.Sprint("refused ", s.e.Kind)]++
			if s.code != 7 {
				s.fails(t, fmt.Sprint(site, " is down"))
			}
		}
		if s.brings() != site {
			continue
		}
		rest := copyReg(s.ahead)
		if !s.e.Keep {
			rest.Radio = slices.Delete(rest.Radio, s.e.Id, s.e.Id+1)
		}
		seen[fmt.Sprint("not heard, kept ", s.e.Keep)]++
		if !sameReg(s.behind, rest) {
			s.fails(t, "more than the word went")
		}
	}
}

// termsGrow asks that no term becomes less, and that it grows just by taking the lead, or by a word of a greater one.
func (s regStep) termsGrow(t *testing.T, seen map[string]int) {
	t.Helper()
	for site, x := range s.behind.Sites {
		by := x.Term - s.ahead.Sites[site].Term
		if by < 0 {
			s.fails(t, "a term became less")
		}
		if by == 0 {
			continue
		}
		takes := s.e.Kind == impl.RegTakes && s.e.Site == site && s.code == 0 && by <= 2 && x.Term%2 == site
		hears := s.brings() == site && s.ahead.Radio[s.e.Id].Site.Leads && s.ahead.Radio[s.e.Id].Site.Term == x.Term
		if !takes && !hears {
			s.fails(t, "a term grew")
		}
		seen[map[bool]string{true: "grew by taking the lead", false: "grew by a word"}[takes]]++
	}
}

// lostBy says whether a word gives back something for which the site has no room among those that came too late: what has no room is asked for again, when the word comes again.
func lostBy(w impl.RegWorld, word impl.RegWord) bool {
	heard := w.Sites[word.To]
	return heard.Leads && len(word.Site.Back) > 0 && len(heard.Late) == impl.RegMaxTokens
}

// heardTwice asks that each word, brought twice at once, and kept, counts once.
func heardTwice(t *testing.T, w impl.RegWorld, seen map[string]int) {
	t.Helper()
	for id, word := range w.Radio {
		once, code := regDeeds.goes(t, w, regKeep(id))
		twice, again := impl.RegDo(once, regKeep(id))
		if code != 0 || again != 0 || len(once.Radio) != len(w.Radio) {
			t.Fatalf("word %d of\n%s: codes %d and %d, %s", id, regShape(w), code, again, regShape(once))
		}
		if lostBy(once, word) {
			seen["no room for what is late"]++
			continue
		}
		if !sameReg(once, twice) {
			t.Fatalf("word %d of\n%s\ncomes to\n%s\nand again to\n%s", id, regShape(w), regShape(once), regShape(twice))
		}
		// The second time it may as well go.
		gone, _ := impl.RegDo(once, regBring(id))
		lost, _ := impl.RegDo(once, regLose(id))
		if !sameReg(gone, lost) {
			t.Fatalf("word %d of\n%s\ncomes to\n%s\nlost it comes to\n%s", id, regShape(once), regShape(gone), regShape(lost))
		}
		noteHeard(seen, w.Sites[word.To], word.Site, once.Sites[word.To])
	}
}

// noteHeard notes what a word that came twice did the first time.
func noteHeard(seen map[string]int, ahead, heard, behind impl.RegSite) {
	switch {
	case !ahead.Up:
		seen["to one that is down"]++
	case sameSite(ahead, behind):
		seen["nothing new"]++
	case !behind.Leads && len(behind.Back) > len(ahead.Back):
		seen["followed, with more to give back"]++
	case !behind.Leads && len(behind.Back) < len(ahead.Back):
		seen["followed, with less to give back"]++
	case !behind.Leads:
		seen["followed"]++
	case len(behind.Late) > len(ahead.Late):
		seen["taken too late"]++
	case len(heard.Back) > 0:
		seen["taken"]++
	}
}

// Promises 69 and 70 behind each thing that happens, and 71 of each word that is under way then.
func TestRegionsStepByStep(t *testing.T) {
	t.Parallel()
	r := rand.New(rand.NewSource(141))
	seen := map[string]int{}
	for range 90 {
		w := anyRegions(t, r)
		for moves := range 80 {
			list := anyRegMoves(r, w)
			switch site := r.Intn(2); {
			case !w.Sites[site].Up && r.Intn(8) == 0:
				// One that is down is asked for all that there is.
				e := []impl.RegEvent{anyRegBegin(r, w), anyRegSignal(r, w), anyRegAnswer(r, w), regTake(site), regSend(site), regFall(site)}[r.Intn(6)]
				e.Site = site
				list = []impl.RegEvent{e}
			case !w.Sites[site].Up && r.Intn(4) == 0:
				list = []impl.RegEvent{regRise(site)}
			case r.Intn(40) == 0:
				list = []impl.RegEvent{regSend(1 - site), regFall(site), regKeep(0), regBring(len(w.Radio))}
			}
			for _, e := range list {
				x, code := regDeeds.goes(t, w, e)
				s := regStep{w, e, x, code}
				s.downStays(t, seen)
				s.termsGrow(t, seen)
				w = x
			}
			if moves%4 == 0 {
				heardTwice(t, w, seen)
			}
		}
		x := impl.RegCalm(w, 1+r.Intn(3))
		for site, s := range x.Sites {
			if s.Term < w.Sites[site].Term || !s.Up {
				t.Fatalf("%s\n%s", regShape(w), regShape(x))
			}
		}
	}
	cameOften(t, seen, map[string]int{
		"down": 200, "down, and led": 100, "rises": 50, "not heard, kept true": 20, "not heard, kept false": 20, "refused 1": 5, "refused 2": 5, "refused 3": 2, "refused 5": 5, "refused 6": 5, "refused 9": 5,
		"grew by taking the lead": 50, "grew by a word": 50, "nothing new": 200, "to one that is down": 50, "followed": 30, "followed, with more to give back": 20, "followed, with less to give back": 5, "taken": 5,
	})
}

// anyWord tells what a site is, or what it could be: that it leads, or what it may give back, by another term.
func anyWord(r *rand.Rand, w impl.RegWorld) impl.RegWord {
	from := r.Intn(2)
	word := impl.RegWord{To: r.Intn(2), Site: copySite(w.Sites[from])}
	s := &word.Site
	s.Term = w.Sites[word.To].Term + r.Intn(4) - 1
	s.Leads, s.Back = r.Intn(2) == 0, nil
	if n := len(s.Runs); n > 0 && r.Intn(3) == 0 {
		s.Runs = slices.Delete(s.Runs, n-1, n)
	}
	if s.Leads {
		return word
	}
	s.Back = mayGiveBy(w.Sites[1-from])
	r.Shuffle(len(s.Back), func(i, j int) { s.Back[i], s.Back[j] = s.Back[j], s.Back[i] })
	s.Back = s.Back[:r.Intn(len(s.Back)+1)]
	for i := range s.Back {
		if r.Intn(4) == 0 {
			s.Back[i].Run = anyRegName(r)
		}
		if s.Back[i].Token > 0 && r.Intn(3) == 0 {
			s.Back[i].Token = 50 + r.Intn(9)
		}
	}
	return word
}

// Promise 71 of worlds that were changed at random, also such as could not have come about.
func TestWordsHeardTwiceByAnyRegions(t *testing.T) {
	t.Parallel()
	r := rand.New(rand.NewSource(142))
	seen := map[string]int{}
	for range 100 {
		w, _ := livedRegions(t, r, 10+r.Intn(50))
		for range 10 {
			x := copyReg(w)
			x.Radio = []impl.RegWord{anyWord(r, w), anyWord(r, w)}
			if r.Intn(3) == 0 {
				x = spoilRegions(r, x)
			}
			if wrong := regOkBy(x); wrong != "" {
				seen["not ok"]++
				if r.Intn(10) == 0 {
					noRegions(t, wrong, x)
				}
				continue
			}
			heardTwice(t, x, seen)
			for _, e := range anyRegMoves(r, x) {
				y, code := regDeeds.goes(t, x, e)
				s := regStep{x, e, y, code}
				s.downStays(t, seen)
				s.termsGrow(t, seen)
			}
		}
	}
	cameOften(t, seen, map[string]int{"not ok": 100, "followed": 50, "followed, with more to give back": 20, "taken": 50, "taken too late": 20, "nothing new": 200, "down": 50})
}

// A region that is down, step by step, with a word to it that is kept, and one that is not.
func TestARegionThatIsDown(t *testing.T) {
	w := passes(t, regions(t, placesFlow), "begin 0 x 0 2|send 0|send 0|fall 1|take 1=7|send 1=7|begin 1 y 0 2=7|fall 1=7")
	kept := passes(t, w, "keep 0|keep 1|keep 0")
	if !sameReg(kept, w) {
		t.Errorf("%s became %s", regShape(w), regShape(kept))
	}
	gone := passes(t, w, "bring 0")
	if len(gone.Radio) != 1 || !sameSite(gone.Sites[1], w.Sites[1]) || len(gone.Sites[1].Runs) > 0 {
		t.Errorf("%s", regShape(gone))
	}
	// Behind its rise it is as it was, and hears what was kept.
	risen := passes(t, gone, "rise 1|rise 1")
	risen.Sites[1].Up = false
	if !sameReg(risen, gone) {
		t.Errorf("%s became %s", regShape(gone), regShape(risen))
	}
	heard := passes(t, gone, "rise 1|bring 0")
	if len(heard.Sites[1].Runs) != 1 || len(heard.Radio) != 0 {
		t.Errorf("%s", regShape(heard))
	}
	// The one that leads is down: it leads still, by its term, and answers nothing.
	led := passes(t, w, "rise 1|fall 0|begin 0 y 0 2=7|signal 0 x 1 go 1=7|try 0 x 1=7|fire 0 x 1=7|take 0=7|send 0=7|take 1|send 1|keep 2|bring 2")
	if !led.Sites[0].Leads || led.Sites[0].Term != 2 || led.Sites[1].Term != 3 {
		t.Errorf("%s", regShape(led))
	}
}

// Terms at their end: none grows above it, and none becomes less.
func TestTermsOfRegionsAtTheirEnd(t *testing.T) {
	for _, c := range []struct{ site, term, code, next int }{
		{0, 9995, 0, 9996}, {0, 9996, 0, 9998}, {0, 9997, 0, 9998}, {0, 9998, 4, 9998}, {0, 9999, 4, 9999}, {1, 9996, 0, 9997}, {1, 9997, 0, 9999}, {1, 9998, 0, 9999}, {1, 9999, 4, 9999}, {0, 0, 0, 2}, {1, 0, 0, 1}, {0, 1, 0, 2}, {1, 1, 0, 3},
	} {
		w := changedRegions(t, regions(t, tinyFlow), func(w *impl.RegWorld) {
			w.Sites[0].Leads = false
			w.Sites[c.site].Term = c.term
		})
		x := occurs(t, w, regTake(c.site), c.code)
		if x.Sites[c.site].Term != c.next || x.Sites[1-c.site].Term != 2 {
			t.Errorf("%d by %d: %s", c.site, c.term, regShape(x))
		}
		regStep{w, regTake(c.site), x, c.code}.termsGrow(t, map[string]int{})
	}
	// A word by the last term is followed by whoever has less; by one of less nobody has less then.
	w := changedRegions(t, regions(t, tinyFlow), func(w *impl.RegWorld) {
		w.Radio = []impl.RegWord{{To: 0, Site: impl.RegSite{Up: true, Term: 9999, Leads: true}}, {To: 0, Site: impl.RegSite{Up: true, Term: 1, Leads: true}}, {To: 0, Site: impl.RegSite{Up: true, Term: 9999}}}
	})
	for script, term := range map[string]int{"keep 0": 9999, "keep 0|keep 1": 9999, "keep 1": 2, "keep 2": 2, "keep 0|keep 2|keep 1|take 0=4": 9999} {
		if x := passes(t, w, script); x.Sites[0].Term != term {
			t.Errorf("%s: %s", script, regShape(x))
		}
	}
}

// A word that is kept, heard again and again; then what comes between counts, and the word does not.
func TestAWordHeardTwice(t *testing.T) {
	w := passes(t, regions(t, placesFlow, boxFlow), "begin 0 x 0 2|begin 0 y 1|signal 0 x 1 go 5|send 0|bring 0|signal 0 x 2 go 6|signal 0 y 3 go 7|begin 0 z 1|take 1|send 1")
	seen := map[string]int{}
	heardTwice(t, w, seen)
	// Site 0 follows, and has to give back: two signals, and a run.
	once := passes(t, w, "keep 0")
	if len(once.Sites[0].Back) != 3 || seen["followed, with more to give back"] != 1 {
		t.Errorf("%v, %s", seen, regShape(once))
	}
	// It sends them, and what is taken once is taken, however often it comes.
	back := passes(t, once, "send 0")
	heardTwice(t, back, seen)
	taken := passes(t, back, "keep 1|keep 1|keep 0|keep 1")
	if s := taken.Sites[1]; len(s.Runs) != 3 || !slices.Equal(sorted(tokensBy(s)), []int{1, 2, 3}) || len(s.Runs[1].Hist) != len(once.Sites[1].Runs[1].Hist)+1 || seen["taken"] != 1 {
		t.Errorf("%v, %s", seen, regShape(taken))
	}
	// A word behind which something else was heard may change something: it is twice at once that counts once.
	between := passes(t, taken, "signal 1 y 4 go 8|keep 0|keep 1")
	if !slices.Equal(sorted(tokensBy(between.Sites[1])), []int{1, 2, 3, 4}) {
		t.Errorf("%s", regShape(between))
	}
	for _, e := range []impl.RegEvent{regKeep(2), regKeep(-1), regBring(math.MaxInt)} {
		occurs(t, w, regEventAt(e, 5), 5)
	}
	noRegions(t, "words too many", impl.RegWorld{Flows: w.Flows, Sites: w.Sites, Radio: slices.Repeat(w.Radio, 7)})
}

// regEventAt is an event with another site; of a word no site is looked at.
func regEventAt(e impl.RegEvent, site int) impl.RegEvent {
	e.Site = site
	return e
}

// What comes too late, and has no room among those that did, is not known: heard again, it is asked for again, by chapter 62's words.
func TestWordsHeardTwiceWithoutRoom(t *testing.T) {
	back := func(list ...impl.RegBack) func(late int) impl.RegWorld {
		return func(late int) impl.RegWorld {
			return changedRegions(t, regions(t, boxFlow), func(w *impl.RegWorld) {
				w.Sites[0].Late = manyTokens(late)
				w.Radio = []impl.RegWord{{To: 0, Site: impl.RegSite{Up: true, Term: 1, Back: list}}}
			})
		}
	}
	begins := impl.RegBack{Run: "x"}
	signals := impl.RegBack{Run: "x", Token: 7, Name: "go", Num: 3}
	seen := map[string]int{}
	for _, late := range []int{0, 39, 40} {
		for _, list := range [][]impl.RegBack{{begins}, {signals}, {begins, signals}, {signals, signals}} {
			heardTwice(t, back(list...)(late), seen)
			w := back(list...)(late)
			once := occurs(t, w, regKeep(0), 0)
			if twice := occurs(t, once, regKeep(0), 0); !sameReg(once, twice) {
				t.Errorf("%d late, %+v: %s became %s", late, list, regShape(once), regShape(twice))
			}
		}
	}
	// Ahead of its run's beginning a signal comes too late; with room it is known then.
	for late, tokens := range map[int]int{39: 0, 40: 1} {
		w := passes(t, back(signals, begins)(late), "keep 0|keep 0")
		if len(w.Sites[0].Runs) != 1 || len(w.Sites[0].Runs[0].Tokens) != tokens || len(w.Sites[0].Late) != 40 {
			t.Errorf("%d late: %s", late, regShape(w))
		}
	}
}

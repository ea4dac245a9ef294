package tests

import (
	"fmt"
	"math/rand"
	"slices"
	"testing"

	"loop.example/dunlin/impl"
)

// Behind all that may happen regions are safe, forget no signal, count none twice, and are as a second reckoning says.
func TestRegionsByASecondReckoning(t *testing.T) {
	t.Parallel()
	r := rand.New(rand.NewSource(81))
	seen := map[string]int{}
	for range 120 {
		w, d := anyRegions(t, r), newRegDiary()
		for moves := range 70 {
			for _, e := range anyRegMoves(r, w) {
				x, code := d.occurs(t, w, e)
				noteReg(seen, w, e, x, code)
				w = x
			}
			if moves%10 == 0 {
				toldOfRegions(t, w)
			}
			if r.Intn(40) == 0 {
				w = d.rests(t, w, 1+r.Intn(2))
			}
		}
	}
	for _, what := range []string{
		"kind 1 code 0", "kind 1 code 2", "kind 1 code 3", "kind 1 code 4", "kind 1 code 7", "kind 2 code 0", "kind 2 code 2", "kind 2 code 5", "kind 2 code 6", "kind 2 code 7",
		"kind 3 code 0", "kind 3 code 5", "kind 3 code 7", "kind 4 code 0", "kind 4 code 3", "kind 4 code 2", "kind 5 code 0", "kind 5 code 6", "kind 6 code 0", "kind 6 code 4", "kind 6 code 7", "kind 7 code 0", "kind 7 code 5", "kind 8 code 0", "kind 9 code 0", "kind 10 code 0",
		"both lead", "more late", "more back", "a run was taken back", "something was taken back", "one does not lead any more", "a word that is kept",
		"a word to one that is down", "a word that gives back and is taken", "a word that gives back and is known", "a word of one's own term followed", "a word of one's own term that is older", "a word of a greater term to one that leads", "a word of a smaller term to one that leads",
	} {
		if seen[what] < 3 {
			t.Errorf("%s came %d times", what, seen[what])
		}
	}
	if t.Failed() || testing.Verbose() {
		t.Log(seen)
	}
}

// toldOfRegions asks that there is a board, and a state of each run that is there, and of no other one.
func toldOfRegions(t *testing.T, w impl.RegWorld) {
	t.Helper()
	board := impl.RegBoard(w)
	if board != regBoardBy(w) || board == "" {
		t.Fatalf("board %q, asked for %q", board, regBoardBy(w))
	}
	for site := range 2 {
		for _, name := range []string{"a", "b", "c", "d", "e", "f", "z", "", "A"} {
			s, ok := impl.RegState(w, site, name)
			want := impl.RunState{}
			there := regRunBy(&w.Sites[site], name) != nil
			if there {
				want = regStateBy(w, site, name)
			}
			if ok != there || shape(s) != shape(want) {
				t.Fatalf("%s at %d: %v, %s, asked for %s", name, site, ok, shape(s), shape(want))
			}
		}
	}
}

// When they hear each other again, both come to know the same, and each signal that was ever answered just once.
func TestRegionsComeToOne(t *testing.T) {
	t.Parallel()
	r := rand.New(rand.NewSource(82))
	seen := map[string]int{}
	for n := range 250 {
		w, d := livedRegions(t, r, 20+r.Intn(80))
		if len(d.began) > impl.RegMaxRuns {
			seen["too many runs"]++
			if x := impl.RegCalm(w, 6); !impl.RegSafe(x) {
				t.Fatalf("not safe: %s", regShape(x))
			}
			continue
		}
		if impl.RegOne(w) {
			seen["one ahead of it"]++
		}
		if w.Sites[0].Leads && w.Sites[1].Leads {
			seen["both led"]++
		}
		if !w.Sites[0].Up || !w.Sites[1].Up {
			seen["one was down"]++
		}
		x := impl.RegCalm(w, 6)
		if n%5 == 0 {
			x = quiets(t, w, 6)
		}
		if !impl.RegSafe(x) || !impl.RegOne(x) || !regOneBy(x) {
			t.Fatalf("not one:\n%s\nbehind\n%s", impl.RegBoard(x), regShape(w))
		}
		d.asks(t, "six calm rounds", w)
		for site, s := range x.Sites {
			if !slices.Equal(sorted(tokensBy(s)), sorted(d.answered)) {
				t.Fatalf("%d knows %v, answered were %v", site, tokensBy(s), d.answered)
			}
		}
		seen["answered"] += len(d.answered)
		seen["late"] += len(x.Sites[0].Late)
		if len(x.Sites[0].Runs) == 4 {
			seen["full of runs"]++
		}
		if len(d.answered) == 40 {
			seen["full of tokens"]++
		}
	}
	cameOften(t, seen, map[string]int{"both led": 60, "one was down": 30, "answered": 500, "late": 20, "full of runs": 20})
}

// A run ends the same, whichever region went on with it: as if there were one.
func TestRunsOfRegionsComeToWhatTheyMean(t *testing.T) {
	t.Parallel()
	r := rand.New(rand.NewSource(83))
	seen := map[string]int{}
	for range 250 {
		w, d := livedRegions(t, r, 20+r.Intn(60))
		x := impl.RegCalm(w, impl.RegMaxCalm)
		if len(d.began) > impl.RegMaxRuns {
			continue
		}
		if !impl.RegSafe(x) || !impl.RegOne(x) {
			t.Fatalf("not one: %s", regShape(x))
		}
		for name, list := range d.began {
			if len(list) != 1 {
				seen["began again"]++
				continue
			}
			e := list[0]
			lines := x.Flows[e.Id]
			waits := slices.ContainsFunc(lines, func(l impl.FlowLine) bool { return l.Kind == impl.FlowGet })
			played, _ := impl.RunPlay(lines, e.Nums, nil, nil, impl.RunMaxPlay)
			run := regRunBy(&x.Sites[0], name)
			if run == nil {
				t.Fatalf("%s was forgotten: %s", name, regBoardBy(x))
			}
			if waits || played.Stands == impl.RunLive || played.Result == impl.RunBusy {
				seen["left out"]++
				continue
			}
			if run.Flow != e.Id || !slices.Equal(run.Args, e.Nums) {
				t.Fatalf("%+v became %+v", e, run)
			}
			seen[fmt.Sprint("stands ", played.Stands)]++
			for _, effect := range x.Effects {
				if effect.Tries > 1 && effect.Key[:len(name)+1] == name+"/" {
					seen["done by both"]++
				}
			}
			for site := range 2 {
				s, ok := impl.RegState(x, site, name)
				if !ok || s.Result == impl.RunBusy || s.Stands != played.Stands || s.Result != played.Result {
					t.Fatalf("%s%v at %d: %v, %s, asked for %s", impl.FlowPrint(lines), e.Nums, site, ok, shape(s), shape(played))
				}
			}
		}
	}
	cameOften(t, seen, map[string]int{"stands 1": 80, "stands 2": 5, "stands 3": 10, "done by both": 10})
}

// Some calm rounds and then some more are both together; a world that is ok stays so, and is as a second reckoning says.
func TestCalmOfAnyRegions(t *testing.T) {
	t.Parallel()
	r := rand.New(rand.NewSource(84))
	for n := range 120 {
		w, _ := livedRegions(t, r, 10+r.Intn(60))
		quiets(t, w, 1+r.Intn(5))
		a, b := r.Intn(12), r.Intn(12)
		if n%10 == 0 {
			a = r.Intn(201)
			b = 200 - a
		}
		both := impl.RegCalm(w, a+b)
		two := impl.RegCalm(impl.RegCalm(w, a), b)
		if !sameReg(both, two) {
			t.Fatalf("%d and %d rounds of %s: %s, and %s", a, b, regShape(w), regShape(two), regShape(both))
		}
		if !impl.RegOk(both) || !impl.RegSafe(both) {
			t.Fatalf("not safe: %s", regShape(both))
		}
		toldOfRegions(t, both)
	}
}

// Of any worlds it is said rightly whether they are ok; what happens to such as are leaves them ok, and is as a second reckoning says.
func TestAnyRegions(t *testing.T) {
	t.Parallel()
	r := rand.New(rand.NewSource(85))
	seen := map[string]int{}
	for range 150 {
		w, _ := livedRegions(t, r, 10+r.Intn(60))
		for range 30 {
			x := spoilRegions(r, w)
			wrong := regOkBy(x)
			seen["wrong: "+wrong]++
			if impl.RegOk(x) != (wrong == "") {
				t.Fatalf("%q by hand: %s", wrong, regShape(x))
			}
			if wrong != "" {
				if r.Intn(4) == 0 {
					noRegions(t, wrong, x)
				}
				continue
			}
			if impl.RegSafe(x) != regSafeBy(x) || impl.RegOne(x) != regOneBy(x) {
				t.Fatalf("safe is not %v, or one is not %v: %s", regSafeBy(x), regOneBy(x), regShape(x))
			}
			seen[fmt.Sprint("safe ", regSafeBy(x))]++
			seen[fmt.Sprint("one ", regOneBy(x))]++
			toldOfRegions(t, x)
			for range 3 {
				for _, e := range anyRegMoves(r, x) {
					y, code := occursAlike(t, x, e)
					noteReg(seen, x, e, y, code)
					x = y
				}
			}
			if r.Intn(6) == 0 {
				quiets(t, x, 1+r.Intn(2))
			}
		}
	}
	for _, what := range []string{"", "sites", "term", "runs", "back", "leads, with back", "late", "name", "fits", "tokens", "history", "how many tokens", "what is back", "to", "radio", "effects", "effect", "answered", "word: runs", "word: leads, with back", "word: history"} {
		if seen["wrong: "+what] < 3 {
			t.Errorf("wrong: %q came %d times", what, seen["wrong: "+what])
		}
	}
	if seen["safe true"] < 200 || seen["safe false"] < 100 || seen["one true"] < 20 || seen["one false"] < 200 || seen["kind 2 code 4"] < 3 {
		t.Errorf("%v", seen)
	}
	if testing.Verbose() {
		t.Log(seen)
	}
}

// Nothing that is handed in is changed, also behind its end; an answer shares no memory with it, nor two lists of one answer.
func TestRegionsAreNewMemory(t *testing.T) {
	t.Parallel()
	r := rand.New(rand.NewSource(86))
	for range 30 {
		w, _ := livedRegions(t, r, 10+r.Intn(40))
		for range 8 {
			w = roomyReg(w)
			e := anyRegMoves(r, w)[0]
			e.Nums = roomy(e.Nums, 77)
			given := func() string { return wholeReg(w) + fmt.Sprint(e.Nums[:cap(e.Nums)]) }
			before := given()
			spans := slices.Concat(spansOfReg("ahead", w), spanOf("Nums", e.Nums))
			x, code := impl.RegDo(w, e)
			lieApart(t, spans, spansOfReg("behind", x))
			lieApart(t, spans, spansOfReg("calm", impl.RegCalm(w, r.Intn(3))))
			opened, ok := impl.RegOpen(w.Flows)
			if !ok {
				t.Fatalf("not opened again: %s", regShape(w))
			}
			lieApart(t, spans, spansOfReg("opened", opened))
			for site, s := range w.Sites {
				for _, run := range s.Runs {
					state, _ := impl.RegState(w, site, run.Name)
					lieApart(t, spans, spansOf("state", state))
				}
			}
			impl.RegBoard(w)
			impl.RegSafe(w)
			impl.RegOne(w)
			if given() != before || t.Failed() {
				t.Fatalf("%+v, code %d: %s became %s", e, code, before, given())
			}
			w = x
		}
	}
}

// Who follows a word, and then leads, goes on with its own: the word that was handed in stays as it was.
func TestWordsThatWereFollowedStayAsTheyWere(t *testing.T) {
	began := passes(t, regions(t, "workflow w n|do a x n|do b y a|return b"), "begin 0 x 0 2|begin 0 z 0 3")
	w := changedRegions(t, began, func(w *impl.RegWorld) {
		heard := w.Sites[0]
		heard.Term = 9
		w.Sites[0] = impl.RegSite{Term: 3}
		w.Radio = []impl.RegWord{{To: 0, Site: copySite(heard)}, {To: 1, Site: copySite(heard)}, {To: 1, Site: copySite(heard)}}
	})
	w = roomyReg(w)
	before, spans := wholeReg(w), spansOfReg("ahead", w)
	for rounds := range 6 {
		x := impl.RegCalm(w, rounds)
		lieApart(t, spans, spansOfReg("behind", x))
		if wholeReg(w) != before {
			t.Fatalf("%d rounds: %s became %s", rounds, before, wholeReg(w))
		}
		if rounds >= 4 && (!impl.RegOne(x) || regStateBy(x, 1, "z").Stands != impl.RunDone) {
			t.Errorf("%d rounds: %s", rounds, regBoardBy(x))
		}
	}
	quiets(t, w, 5)
}

// What is answered hangs on what is handed in alone, from however many sides, and however often, it is asked.
func TestRegionsHangOnNothingElse(t *testing.T) {
	t.Parallel()
	r := rand.New(rand.NewSource(87))
	for range 12 {
		w, _ := livedRegions(t, r, 20+r.Intn(60))
		e := anyRegMoves(r, w)[0]
		ask := func() string {
			x, code := impl.RegDo(w, e)
			state, ok := impl.RegState(w, 0, "a")
			return fmt.Sprint(regShape(x), code, regShape(impl.RegCalm(w, 4)), impl.RegBoard(w), impl.RegSafe(w), impl.RegOne(w), shape(state), ok)
		}
		askedAtOnce(t, regShape(w), ask)
	}
}

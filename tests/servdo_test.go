package tests

import (
	"fmt"
	"math"
	"slices"
	"strings"
	"testing"

	"loop.example/dunlin/impl"
)

// changedServ is a copy of a world with something changed, which must be ok.
func changedServ(t *testing.T, w impl.ServWorld, change func(w *impl.ServWorld)) impl.ServWorld {
	t.Helper()
	w = copyServ(w)
	change(&w)
	if !impl.ServOk(w) {
		t.Fatalf("not ok: %q by hand, %s", worldOkBy(w), servShape(w))
	}
	return w
}

func namesOf(w impl.ServWorld) string {
	var names []string
	for _, x := range w.Runs {
		names = append(names, x.Name)
	}
	return strings.Join(names, " ")
}

func TestServOtherKinds(t *testing.T) {
	w := fullWorld(t)
	for _, kind := range []int{math.MinInt, -1, 0, 13, 14, math.MaxInt} {
		does(t, w, impl.ServEvent{Kind: kind, Who: 9}, 2)
	}
}

func TestServTicks(t *testing.T) {
	w := serves(t, opened(t, 1, 1, orderFlow), "tick|tick")
	if w.Now != 2 {
		t.Errorf("now %d", w.Now)
	}
	w = changedServ(t, w, func(w *impl.ServWorld) { w.Now = 99999 })
	w = serves(t, w, "tick|tick=4")
	if w.Now != 100000 {
		t.Errorf("now %d", w.Now)
	}
}

func TestServBegins(t *testing.T) {
	w := opened(t, 1, 1, orderFlow, "workflow w|return 1", "workflow v a b c|return c")
	for _, e := range []impl.ServEvent{evBegin("", 1), evBegin("X", 1), evBegin("x y", 1), evBegin("toolongna", 1), evBegin("1x", 1), evBegin("x", -1), evBegin("x", 3), evBegin("x", math.MinInt), evBegin("x", math.MaxInt), evBegin("x", 0), evBegin("x", 0, 1, 2), evBegin("x", 1, 1), evBegin("x", 2, 1, 2), evBegin("x", 0, 10000), evBegin("x", 0, -10000), evBegin("x", 2, 1, 2, 10000)} {
		does(t, w, e, 2)
	}
	w = serves(t, w, "begin m 0 9999|begin c 1|begin x 2 -9999 0 9999|begin ma 1|begin l 1|begin b 1")
	if namesOf(w) != "b c l m ma x" {
		t.Error(namesOf(w))
	}
	want := impl.ServRun{Name: "x", Flow: 2, Args: []int{-9999, 0, 9999}}
	if fmt.Sprint(w.Runs[5]) != fmt.Sprint(want) {
		t.Errorf("%+v", w.Runs[5])
	}
	serves(t, w, "begin b 1=3|begin x 0 2=3|begin m 0 2=3|begin n 1=4|begin a 1=4|begin b 0=2|begin N 1=2|begin n 9=2")
}

// The runs of tasks stay what they were, wherever a run comes among the others.
func TestServBeginsMovesTasks(t *testing.T) {
	w := serves(t, opened(t, 1, 2, "workflow w|return 1"), "begin f 0|begin m 0|begin t 0|lease 0 0|take 0 1|take 0 0|take 0 2")
	w = serves(t, w, "tick*5|lease 1 0|take 1 2|take 1 1")
	for _, c := range []struct{ name, runs string }{{"a", "213 32"}, {"fa", "203 32"}, {"n", "103 31"}, {"z", "102 21"}} {
		x := does(t, w, evBegin(c.name, 0), 0)
		got := ""
		for _, k := range x.Workers {
			for _, task := range k.Tasks {
				got += fmt.Sprint(task.Run)
			}
			got += " "
		}
		if strings.TrimSpace(got) != c.runs {
			t.Errorf("%s: %s, asked for %s", c.name, got, c.runs)
		}
		x = serves(t, x, "write 1*2|write 0=8*3")
		for _, y := range x.Runs {
			if y.Closed != (y.Name == "m" || y.Name == "t") {
				t.Errorf("%s behind %s is closed: %v", y.Name, c.name, y.Closed)
			}
		}
	}
}

func TestServSignals(t *testing.T) {
	w := serves(t, opened(t, 1, 1, orderFlow, "workflow w|return 1"), "begin x 0 2|begin y 1|lease 0 0|take 0 1|write 0")
	w = serves(t, w, "signal 0 5 go 3|signal 0 -7 no -9999|signal 0 6 go 9999")
	if fmt.Sprint(w.Tokens, w.Runs[0].Inbox) != fmt.Sprint([]int{-7, 5, 6}, haps(signal("go", 3), signal("no", -9999), signal("go", 9999))) {
		t.Error(w.Tokens, w.Runs[0].Inbox)
	}
	for _, token := range []int{5, 8} {
		for _, run := range []int{0, 1, 9} {
			for _, e := range []impl.ServEvent{evSignal(run, token, "", 3), evSignal(run, token, "Go", 3), evSignal(run, token, "toolongna", 3), evSignal(run, token, "go"), evSignal(run, token, "go", 1, 2), evSignal(run, token, "go", 10000), evSignal(run, token, "go", -10000)} {
				does(t, w, e, 2)
			}
		}
	}
	before := servShape(w)
	for _, e := range []impl.ServEvent{evSignal(0, 5, "go", 3), evSignal(0, -7, "go", 4), evSignal(0, 6, "other", 5), evSignal(1, 5, "go", 3), evSignal(-1, 5, "go", 3), evSignal(2, 6, "go", 3)} {
		if x := does(t, w, e, 0); servShape(x) != before {
			t.Errorf("%+v counted: %s", e, servShape(x))
		}
	}
	for _, e := range []impl.ServEvent{evSignal(-1, 9, "go", 3), evSignal(2, 9, "go", 3), evSignal(math.MinInt, 9, "go", 3), evSignal(math.MaxInt, 9, "go", 3)} {
		does(t, w, e, 5)
	}
	serves(t, w, "signal 1 9 go 3=6")
}

// tokened has so many tokens, the even numbers from 0 on.
func tokened(t *testing.T, w impl.ServWorld, count int) impl.ServWorld {
	return changedServ(t, w, func(w *impl.ServWorld) {
		w.Tokens = nil
		for i := range count {
			w.Tokens = append(w.Tokens, 2*i)
		}
	})
}

func TestServSignalsThatAreTooMany(t *testing.T) {
	w := serves(t, opened(t, 1, 1, orderFlow, "workflow w|return 1"), "begin x 0 2|begin y 1|lease 0 0|take 0 1|write 0")
	for _, token := range []int{-1, 57, 117, 500} {
		x := does(t, tokened(t, w, 59), evSignal(0, token, "go", 1), 0)
		does(t, x, evSignal(0, token+1000, "go", 1), 4)
		does(t, x, evSignal(0, token, "go", 1), 0)
	}
	full := tokened(t, w, 60)
	serves(t, full, "signal 0 1 go 1=4|signal 1 1 go 1=4|signal 5 1 go 1=4|signal 5 2 go 1|signal 0 1 Go 1=2")
	// Box and the signals of Inbox count together; what else is in Inbox does not.
	boxed := func(box, inbox, others int) impl.ServWorld {
		x := copyServ(w)
		x.Runs[0].Hist = hist(t, "start 2|ask 1 0 pay 2")
		for range box {
			x.Runs[0].Hist = append(x.Runs[0].Hist, impl.HistEntry{Kind: impl.EntSignal, Name: "no", Nums: []int{1}})
		}
		x.Runs[0].Inbox = append(slices.Repeat(haps(cancel()), others), slices.Repeat(haps(signal("go", 1)), inbox)...)
		return changedServ(t, x, func(w *impl.ServWorld) {})
	}
	for box := 0; box <= 20; box += 5 {
		does(t, boxed(box, 20-box, 0), evSignal(0, 1, "go", 1), 4)
		does(t, boxed(box, 20-box, 10), evSignal(0, 1, "go", 1), 4)
		if box > 0 {
			does(t, boxed(box-1, 20-box, 9), evSignal(0, 1, "go", 1), 0)
			does(t, boxed(box-1, 21-box, 3), evSignal(0, 1, "go", 1), 4)
			does(t, boxed(box, 25-box, 3), evSignal(0, 1, "go", 1), 4)
		}
	}
	does(t, boxed(3, 5, 24), evSignal(0, 1, "go", 1), 0)
	does(t, boxed(3, 5, 25), evSignal(0, 1, "go", 1), 4)
	does(t, boxed(3, 5, 25), evSignal(1, 1, "go", 1), 6)
	// A run without a history has no box.
	bare := changedServ(t, w, func(w *impl.ServWorld) { w.Runs[0].Inbox = slices.Repeat(haps(signal("go", 1)), 19) })
	does(t, does(t, bare, evSignal(0, 1, "go", 1), 0), evSignal(0, 2, "go", 1), 4)
	// One that is closed has its box still.
	closed := does(t, boxed(20, 0, 1), evTake(0, 0), 0)
	closed = does(t, closed, evWrite(0), 0)
	if !closed.Runs[0].Closed {
		t.Fatal("not closed")
	}
	does(t, closed, evSignal(0, 1, "go", 1), 4)
	closed = does(t, does(t, boxed(19, 0, 1), evTake(0, 0), 0), evWrite(0), 0)
	does(t, closed, evSignal(0, 1, "go", 1), 6)
	does(t, changedServ(t, closed, func(w *impl.ServWorld) { w.Runs[0].Inbox = haps(signal("go", 1)) }), evSignal(0, 1, "go", 1), 4)
}

func TestServCancels(t *testing.T) {
	w := serves(t, opened(t, 1, 1, orderFlow, "workflow w|return 1"), "begin x 0 2|begin y 1|lease 0 0|take 0 1|write 0")
	serves(t, w, "cancel -1=5|cancel 2=5|cancel 1=6")
	x := serves(t, w, "cancel 0*30|cancel 0=4")
	if fmt.Sprint(x.Runs[0].Inbox) != fmt.Sprint(slices.Repeat(haps(cancel()), 30)) {
		t.Error(x.Runs[0].Inbox)
	}
	full := changedServ(t, w, func(w *impl.ServWorld) { w.Runs[1].Inbox = slices.Repeat(haps(cancel()), 30) })
	serves(t, full, "cancel 1=6")
}

func TestServLeases(t *testing.T) {
	w := opened(t, 2, 3, orderFlow)
	serves(t, w, "lease 0 -1=5|lease 0 2=5|lease -1 0=5|lease 3 0=5|fall 1|lease 1 0=7|lease 1 9=7|lease 3 9=5")
	w = serves(t, w, "tick*3|lease 1 1")
	servBoards(t, w, "now 3|shard -1 term 0 until 0|shard 1 term 1 until 7")
	if fmt.Sprint(w.Workers[1].Terms, w.Workers[0].Terms) != "[0 1] [0 0]" {
		t.Error(w.Workers)
	}
	// At Until it is held still, a tick later it is not; who holds it goes on with it by the same term, also then.
	w = serves(t, w, "lease 0 1=7|tick*3|lease 0 1=7|lease 1 1|lease 1 1")
	servBoards(t, w, "now 6|shard -1 term 0 until 0|shard 1 term 1 until 10")
	w = serves(t, w, "tick*4|lease 0 1=7|lease 2 1=7|tick")
	servBoards(t, serves(t, w, "lease 1 1"), "now 11|shard -1 term 0 until 0|shard 1 term 1 until 15")
	w = serves(t, w, "lease 2 1|lease 0 1=7|lease 1 1=7|lease 0 0")
	servBoards(t, w, "now 11|shard 0 term 1 until 15|shard 2 term 2 until 15")
	if fmt.Sprint(w.Workers[0].Terms, w.Workers[1].Terms, w.Workers[2].Terms) != "[1 0] [0 1] [0 2]" {
		t.Error(w.Workers)
	}
	// Who fell holds nothing any more, though it is the owner.
	w = serves(t, w, "fall 2|lease 2 1=7|rise 2|lease 2 1=7|tick*4|lease 2 1=7|tick|lease 2 1")
	servBoards(t, w, "now 16|shard 0 term 1 until 15|shard 2 term 3 until 20")
}

func TestServLeasesAtTheLastTerm(t *testing.T) {
	w := serves(t, opened(t, 1, 2, orderFlow), "lease 0 0")
	near := changedServ(t, w, func(w *impl.ServWorld) { w.Shards[0].Term, w.Workers[0].Terms[0] = 9998, 9998 })
	near = serves(t, near, "tick*5|lease 1 0|lease 1 0|lease 0 0=7|tick*4|lease 0 0=7|tick|lease 0 0=4|lease 1 0")
	servBoards(t, near, "now 10|shard 1 term 9999 until 14")
	// Who had the last term and fell gets no other one.
	serves(t, near, "fall 1|rise 1|lease 1 0=7|tick*5|lease 1 0=4")
}

// writing is a worker 0 with the only shard, and a run x that waits for pay, and for a time.
func writing(t *testing.T) impl.ServWorld {
	t.Helper()
	return serves(t, opened(t, 1, 2, waitFlow), "begin x 0 2|lease 0 0|take 0 0|write 0")
}

func taskOf(t *testing.T, w impl.ServWorld, who, place int) string {
	t.Helper()
	x := w.Workers[who].Tasks[place]
	return fmt.Sprintf("%d %d %d %d %d %s", x.Run, x.Chain, x.Term, x.Len, x.Take, rowsBy(x.Put))
}

// takesAs asks what is taken of the first run with an inbox.
func takesAs(t *testing.T, w impl.ServWorld, inbox []impl.RunHap, want string) impl.ServWorld {
	t.Helper()
	w = changedServ(t, w, func(w *impl.ServWorld) { w.Runs[0].Inbox = inbox })
	w = does(t, w, evTake(0, 0), 0)
	if got := taskOf(t, w, 0, 0); got != want {
		t.Errorf("%v: %q, asked for %q", inbox, got, want)
	}
	return w
}

func TestServTakes(t *testing.T) {
	w := opened(t, 2, 2, waitFlow, "workflow w|return 1")
	w = serves(t, w, "begin b 0 2|begin c 1|lease 0 0|lease 0 1|take 0 0|take 0 1")
	if got := taskOf(t, w, 0, 0); got != "0 0 1 0 0 start 2|ask 1 0.0 pay 2|ask 2 1.0 - 5" {
		t.Error(got)
	}
	if got := taskOf(t, w, 0, 1); got != "1 0 1 0 0 start|end 1 1" {
		t.Error(got)
	}
	// A term that was lost is a term still; nobody else has one.
	w = serves(t, w, "tick*5|lease 1 0|lease 1 0|take 1 1=7|take 1 0|take 0 0")
	if got := taskOf(t, w, 1, 0); got != "0 0 2 0 0 start 2|ask 1 0.0 pay 2|ask 2 1.0 - 5" {
		t.Error(got)
	}
	if got := taskOf(t, w, 0, 2); got != "0 0 1 0 0 start 2|ask 1 0.0 pay 2|ask 2 1.0 - 5" {
		t.Error(got)
	}
}

func TestServTakesOfInboxes(t *testing.T) {
	w := writing(t)
	takesAs(t, w, haps(done(1, 4)), "0 0 1 3 1 done 1 4")
	takesAs(t, w, haps(fired(2), done(1, 4)), "0 0 1 3 1 fired 2")
	takesAs(t, w, haps(signal("go", 5)), "0 0 1 3 1 signal go 5")
	takesAs(t, w, haps(cancel()), "0 0 1 3 1 cancel|end 4 -9003")
	takesAs(t, w, haps(broke(1, 6), done(1, 4)), "0 0 1 3 1 broke 1 6|end 2 6")
	// What may not happen is passed over.
	takesAs(t, w, haps(done(2, 4), fired(1), done(3, 3), fired(2), done(1, 4)), "0 0 1 3 4 fired 2")
	takesAs(t, w, haps(done(2, 4), fired(1), broke(9, 3)), "0 0 1 3 3 ")
	takesAs(t, w, haps(fired(9)), "0 0 1 3 1 ")
	// What a kind has no place for does not count.
	takesAs(t, w, haps(impl.RunHap{Kind: impl.HapFired, Id: 2, Name: "Bad", Num: 99999}), "0 0 1 3 1 fired 2")
	takesAs(t, w, haps(impl.RunHap{Kind: impl.HapCancel, Id: -2, Name: "Bad", Num: 99999}), "0 0 1 3 1 cancel|end 4 -9003")
	// Without a history an inbox does not matter.
	bare := changedServ(t, w, func(w *impl.ServWorld) {
		w.Runs[0] = impl.ServRun{Name: "x", Args: []int{7}, Chain: 3}
	})
	takesAs(t, bare, haps(cancel(), done(1, 4)), "0 3 1 0 0 start 7|ask 1 0.0 pay 7|ask 2 1.0 - 5")
	takesAs(t, bare, nil, "0 3 1 0 0 start 7|ask 1 0.0 pay 7|ask 2 1.0 - 5")
}

// nearlyFull is a run whose history has so many entries, and which undoes its second thing.
func nearlyFull(t *testing.T, size int) impl.ServWorld {
	t.Helper()
	lines, list := endingHist(t, size)
	w, _ := impl.ServOpen([][]impl.FlowLine{lines}, 1, 1)
	w = serves(t, w, "begin x 0|lease 0 0")
	return changedServ(t, w, func(w *impl.ServWorld) { w.Runs[0].Hist = list })
}

func TestServTakesOfFullHistories(t *testing.T) {
	takesAs(t, nearlyFull(t, 398), haps(done(4, 1)), "0 0 1 398 1 done 4 1|ask 5 0- y 5")
	takesAs(t, nearlyFull(t, 399), haps(signal("go", 1), done(4, 1)), "0 0 1 399 1 signal go 1")
	// What has no room stays, with all behind it; what is ahead of it and may not happen goes.
	takesAs(t, nearlyFull(t, 399), haps(done(4, 1), signal("go", 1)), "0 0 1 399 0 ")
	takesAs(t, nearlyFull(t, 399), haps(fired(9), done(8, 1), done(4, 1), signal("go", 1)), "0 0 1 399 2 ")
	takesAs(t, nearlyFull(t, 399), haps(fired(9), done(4, 1), done(8, 1)), "0 0 1 399 1 ")
	takesAs(t, nearlyFull(t, 399), haps(done(4, 1)), "0 0 1 399 0 ")
	takesAs(t, nearlyFull(t, 400), haps(signal("go", 1), cancel()), "0 0 1 400 0 ")
	takesAs(t, nearlyFull(t, 400), haps(fired(9), signal("go", 1)), "0 0 1 400 1 ")
	takesAs(t, nearlyFull(t, 400), haps(fired(9), done(9, 1)), "0 0 1 400 2 ")
	// Written, it is as it was taken.
	w := takesAs(t, nearlyFull(t, 400), haps(fired(9), signal("go", 1)), "0 0 1 400 1 ")
	w = does(t, w, evWrite(0), 0)
	servBoards(t, w, "now 0|shard 0 term 1 until 4|x/0 live -9003, 400 written, 1 waiting")
	w = serves(t, w, "take 0 0|write 0|try 0 4|take 0 0|write 0")
	servBoards(t, w, "now 0|shard 0 term 1 until 4|x/0 live -9003, 400 written, 2 waiting|x/0/1- 0, tried 1")
	w = does(t, takesAs(t, nearlyFull(t, 398), haps(done(4, 1)), "0 0 1 398 1 done 4 1|ask 5 0- y 5"), evWrite(0), 0)
	servBoards(t, w, "now 0|shard 0 term 1 until 4|x/0 live -9003, 400 written, 0 waiting")
}

func TestServTakesCodes(t *testing.T) {
	w := serves(t, opened(t, 1, 2, waitFlow, "workflow w|return 1"), "begin x 0 2|begin y 1|lease 0 0|take 0 0|write 0|take 0 1|write 0")
	serves(t, w, "take 0 0=6|take 0 1=6|take 0 2=5|take 0 -1=5|take 1 0=7|take 1 1=7|take 1 2=5|take -1 0=5|take 2 0=5|fall 1|take 1 0=7|take 1 9=7")
	six := serves(t, w, "signal 0 1 go 1|take 0 0*6|take 0 0=4|take 0 1=6|take 0 2=5|signal 0 2 go 2|take 0 0=4|write 0|take 0 0|take 0 0=4")
	if len(six.Workers[0].Tasks) != 6 || taskOf(t, six, 0, 5) != "0 0 1 4 1 signal go 2" {
		t.Error(six.Workers[0])
	}
	// No term, though there is nothing to be done, or hands are full.
	none := changedServ(t, six, func(w *impl.ServWorld) { w.Workers[0].Terms[0] = 0 })
	serves(t, none, "take 0 0=7|take 0 1=7|take 0 2=5")
	// Nothing to be done, though hands are full.
	idle := changedServ(t, six, func(w *impl.ServWorld) { w.Runs[0].Inbox = nil })
	serves(t, idle, "take 0 0=6")
}

func TestServWrites(t *testing.T) {
	w := serves(t, opened(t, 1, 2, waitFlow), "write 0=6|begin x 0 2|lease 0 0|tick*2|write 0=6|write 2=5|write -1=5|fall 1|write 1=7|rise 1")
	w = serves(t, w, "take 0 0|write 0")
	servBoards(t, w, "now 2|shard 0 term 1 until 4|x/0 live 0, 3 written, 0 waiting")
	want := impl.ServRun{Name: "x", Args: []int{2}, Hist: hist(t, "start 2|ask 1 0.0 pay 2|ask 2 1.0 - 5"), Dues: []impl.ServDue{{Id: 2, Tick: 7}}}
	if fmt.Sprint(w.Runs[0]) != fmt.Sprint(want) {
		t.Errorf("%+v", w.Runs[0])
	}
	// A due stays as it was, however late something else is written.
	w = serves(t, w, "tick*3|try 0 1|signal 0 1 no 4|take 0 0|tick|write 0")
	want.Hist = append(want.Hist, hist(t, "done 1 -2")...)
	want.Inbox = haps(signal("no", 4))
	if fmt.Sprint(w.Runs[0]) != fmt.Sprint(want) {
		t.Errorf("%+v", w.Runs[0])
	}
	// Another one comes behind it with the tick at which it is written; what is over has none.
	w = serves(t, w, "tick|fire 0 2|take 0 0|write 0|take 0 0|tick*3|write 0")
	want.Hist = append(want.Hist, hist(t, "signal no 4|fired 2|ask 3 1 - 9")...)
	want.Inbox, want.Dues = nil, []impl.ServDue{{Id: 3, Tick: 19}}
	if fmt.Sprint(w.Runs[0]) != fmt.Sprint(want) {
		t.Errorf("%+v", w.Runs[0])
	}
	w = serves(t, w, "signal 0 2 go 8|cancel 0|take 0 0|write 0")
	want.Hist = append(want.Hist, hist(t, "signal go 8|end 1 8")...)
	want.Inbox, want.Dues, want.Closed = haps(cancel()), nil, true
	if fmt.Sprint(w.Runs[0]) != fmt.Sprint(want) {
		t.Errorf("%+v", w.Runs[0])
	}
	servBoards(t, w, "now 10|shard 0 term 1 until 4|x/0 done 8, 9 written, 1 waiting|x/0/0.0 -2, tried 1")
}

// Of what was tried that is left which is still asked for.
func TestServWritesKeepsTries(t *testing.T) {
	w := serves(t, opened(t, 1, 1, "workflow w|both|do a x|and|both|do b y|and|do c z|end|end|sleep 3|return a"), "begin r 0|lease 0 0|take 0 0|write 0|lost 0 2|try 0 3|lost 0 1")
	if fmt.Sprint(w.Runs[0].Tries) != "[{1 1 3} {2 1 3} {3 1 3}]" {
		t.Error(w.Runs[0].Tries)
	}
	w = serves(t, w, "tick*3|try 0 2|take 0 0|write 0")
	if fmt.Sprint(w.Runs[0].Tries, w.Runs[0].Inbox) != fmt.Sprint("[{1 1 3} {2 2 9}] ", haps(done(2, w.Effects[1].Answer))) {
		t.Error(w.Runs[0].Tries, w.Runs[0].Inbox)
	}
	w = serves(t, w, "take 0 0|write 0")
	if fmt.Sprint(w.Runs[0].Tries) != "[{1 1 3}]" {
		t.Error(w.Runs[0].Tries)
	}
	w = serves(t, w, "try 0 1|take 0 0|write 0")
	if fmt.Sprint(w.Runs[0].Tries, w.Runs[0].Dues) != "[] [{4 6}]" {
		t.Error(w.Runs[0])
	}
	// Also if nothing is put: tries and dues of what nobody asks for go, what is missing comes.
	w = changedServ(t, w, func(w *impl.ServWorld) {
		w.Runs[0].Tries, w.Runs[0].Dues = []impl.ServTry{{Id: 3, Tries: 1}, {Id: 4, Tries: 1, Next: 7}, {Id: 5, Tries: 1}}, []impl.ServDue{{Id: 1, Tick: 1}, {Id: 9, Tick: 1}}
		w.Runs[0].Inbox = haps(fired(9), done(1, 1))
	})
	w = serves(t, w, "tick|take 0 0|write 0")
	if fmt.Sprint(w.Runs[0].Tries, w.Runs[0].Dues, w.Runs[0].Inbox) != "[{4 1 7}] [{4 7}] []" {
		t.Error(w.Runs[0])
	}
}

// A time below 0 is one that has come already.
func TestServWritesDuesOfAnyTime(t *testing.T) {
	w := serves(t, opened(t, 1, 1, "workflow w n|sleep n|return n"), "begin a 0 -9999|begin b 0 0|begin c 0 9999|lease 0 0|tick*3|take 0 0|take 0 1|take 0 2|write 0*3")
	if got := fmt.Sprint(w.Runs[0].Dues, w.Runs[1].Dues, w.Runs[2].Dues); got != "[{1 -9996}] [{1 3}] [{1 10002}]" {
		t.Error(got)
	}
	serves(t, w, "fire 0 1|fire 1 1|fire 2 1=7")
}

// fenced asks that the first task of worker 0 is not written any more, and only goes out of its hands.
func fenced(t *testing.T, what string, w impl.ServWorld) {
	t.Helper()
	x := does(t, w, evWrite(0), 8)
	w = copyServ(w)
	w.Workers[0].Tasks = w.Workers[0].Tasks[1:]
	if servShape(x) != servShape(w) {
		t.Errorf("%s: %s, asked for %s", what, servShape(x), servShape(w))
	}
}

func TestServWritesFenced(t *testing.T) {
	w := serves(t, writing(t), "try 0 1|take 0 0")
	serves(t, w, "write 0")
	change := func(what string, set func(w *impl.ServWorld)) {
		fenced(t, what, changedServ(t, w, set))
	}
	task := func(what string, set func(x *impl.ServTask)) {
		change(what, func(w *impl.ServWorld) { set(&w.Workers[0].Tasks[0]) })
	}
	change("the shard's term", func(w *impl.ServWorld) { w.Shards[0].Term = 2 })
	task("a term below", func(x *impl.ServTask) { x.Term = 0 })
	task("a term above", func(x *impl.ServTask) { x.Term = 2 })
	task("a chain above", func(x *impl.ServTask) { x.Chain = 1 })
	change("the run's chain", func(w *impl.ServWorld) { w.Runs[0].Chain = 1 })
	task("a shorter history", func(x *impl.ServTask) { x.Len = 2 })
	task("a longer history", func(x *impl.ServTask) { x.Len = 4 })
	task("none", func(x *impl.ServTask) { x.Len = 0 })
	task("more taken", func(x *impl.ServTask) { x.Take = 2 })
	task("less taken", func(x *impl.ServTask) { x.Take = 0 })
	task("more put", func(x *impl.ServTask) { x.Put = hist(t, "done 1 -2|cancel") })
	task("less put", func(x *impl.ServTask) { x.Put = nil })
	task("another answer", func(x *impl.ServTask) { x.Put = hist(t, "done 1 3") })
	task("another entry", func(x *impl.ServTask) { x.Put = hist(t, "broke 1 -2") })
	change("another inbox", func(w *impl.ServWorld) { w.Runs[0].Inbox[0].Num = 3 })
	change("no inbox", func(w *impl.ServWorld) { w.Runs[0].Inbox = nil })
	change("something ahead in the inbox", func(w *impl.ServWorld) { w.Runs[0].Inbox = haps(cancel(), done(1, -2)) })
	change("something ahead that may not happen", func(w *impl.ServWorld) { w.Runs[0].Inbox = haps(fired(9), done(1, -2)) })
	// What comes behind it in the inbox does not matter.
	serves(t, w, "cancel 0|signal 0 1 go 3|write 0")
	// Who has the term does not matter, nor does how long it is held: only that nobody else got the next.
	serves(t, changedServ(t, w, func(w *impl.ServWorld) { w.Workers[0].Terms[0] = 0 }), "tick*9|write 0")
	serves(t, w, "tick*5|lease 1 0|write 0=8")
	// The same twice is once.
	serves(t, w, "take 0 0|write 0|write 0=8|write 0=6")
	// A run that was closed meanwhile, or has begun meanwhile.
	closed := serves(t, writing(t), "cancel 0|take 0 0|take 0 0|write 0")
	if !closed.Runs[0].Closed {
		t.Error("not closed")
	}
	fenced(t, "closed", closed)
	fenced(t, "closed, by its length", changedServ(t, closed, func(w *impl.ServWorld) {
		w.Workers[0].Tasks[0] = impl.ServTask{Term: 1, Len: len(w.Runs[0].Hist)}
	}))
	fenced(t, "begun", serves(t, opened(t, 1, 1, waitFlow), "begin x 0 2|lease 0 0|take 0 0|take 0 0|write 0"))
}

// What is put where nothing could be taken: nothing, and 0.
func TestServWritesNothing(t *testing.T) {
	w := changedServ(t, writing(t), func(w *impl.ServWorld) {
		w.Workers[0].Tasks = []impl.ServTask{{Term: 1, Len: 3}, {Term: 1, Len: 3, Take: 1}, {Term: 1, Len: 3, Put: hist(t, "fired 2")}}
	})
	before := servShape(impl.ServWorld{Runs: w.Runs})
	w = serves(t, w, "write 0")
	if servShape(impl.ServWorld{Runs: w.Runs}) != before {
		t.Errorf("%+v", w.Runs)
	}
	serves(t, w, "write 0=8|write 0=8")
	// Taken when nothing in the inbox could happen, it is not written, once something can.
	w = changedServ(t, writing(t), func(w *impl.ServWorld) { w.Runs[0].Inbox = haps(done(7, 1), fired(7)) })
	w = serves(t, w, "take 0 0|take 0 0")
	serves(t, w, "signal 0 1 go 1|write 0=8|write 0=8")
	w = serves(t, w, "write 0|write 0=8")
	if len(w.Runs[0].Inbox) != 0 || len(w.Runs[0].Hist) != 3 {
		t.Errorf("%+v", w.Runs[0])
	}
}

const againFlow = "workflow w n|get a go|if a less n|next a|end|return a"

// A run that begins anew has its name, its flow and its new numbers, and of what came only what is not said to the old one alone.
func TestServBeginsAnew(t *testing.T) {
	w := serves(t, opened(t, 1, 1, "workflow v|return 1", againFlow), "begin x 1 5|lease 0 0|take 0 0|write 0")
	w = changedServ(t, w, func(w *impl.ServWorld) {
		w.Runs[0].Inbox = haps(signal("no", 6), fired(9), signal("go", 3), done(1, 1), cancel(), signal("no", 7), broke(1, 1), fired(1), cancel(), signal("go", 4), cancel())
		w.Runs[0].Tries, w.Runs[0].Dues = []impl.ServTry{{Id: 1, Tries: 1}}, []impl.ServDue{{Id: 1}}
		w.Runs[0].Chain = 98
	})
	w = serves(t, w, "take 0 0|write 0|take 0 0|take 0 0|write 0")
	want := impl.ServRun{Name: "x", Flow: 1, Args: []int{3}, Chain: 99, Inbox: haps(signal("no", 6), cancel(), signal("no", 7), signal("go", 4))}
	if fmt.Sprint(w.Runs[0]) != fmt.Sprint(want) {
		t.Errorf("%+v, asked for %+v", w.Runs[0], want)
	}
	if _, ok := impl.ServState(w, 0); ok {
		t.Error("it has a state")
	}
	servBoards(t, w, "now 0|shard 0 term 1 until 4|x/99 live 0, 0 written, 4 waiting")
	// What was in hands then is of the one before.
	serves(t, w, "write 0=8|write 0=6|take 0 0|write 0|take 0 0|write 0|take 0 0|write 0|take 0 0=6")
	serves(t, w, "write 0=8|try 0 1=5|fire 0 1=7|cancel 0|signal 0 5 go 2")
}

func TestServBeginsAnewNoMore(t *testing.T) {
	w := serves(t, opened(t, 1, 1, againFlow), "begin x 0 5|lease 0 0|take 0 0|write 0|signal 0 1 no 6|signal 0 2 go 3|signal 0 3 go 4|take 0 0|write 0|take 0 0")
	// At ServMaxChain it is closed, as it stands.
	last := changedServ(t, w, func(w *impl.ServWorld) { w.Runs[0].Chain, w.Workers[0].Tasks[0].Chain = 99, 99 })
	last = serves(t, last, "write 0|take 0 0=6|signal 0 9 go 1=6")
	servBoards(t, last, "now 0|shard 0 term 1 until 4|x/99 anew 0, 4 written, 1 waiting")
	below := changedServ(t, w, func(w *impl.ServWorld) { w.Runs[0].Chain, w.Workers[0].Tasks[0].Chain = 98, 98 })
	servBoards(t, serves(t, below, "write 0"), "now 0|shard 0 term 1 until 4|x/99 live 0, 0 written, 2 waiting")
	// With other numbers than the head has names, too.
	for _, c := range []struct {
		next string
		anew bool
	}{{"next", false}, {"next 1", true}, {"next 1 2", false}, {"next 1 2 3", false}} {
		w := serves(t, opened(t, 1, 1, "workflow w n|"+c.next), "begin x 0 5|lease 0 0|signal 0 1 go 2|take 0 0|write 0")
		if w.Runs[0].Closed == c.anew || w.Runs[0].Chain != map[bool]int{true: 1}[c.anew] || len(w.Runs[0].Inbox) != 1 {
			t.Errorf("%s: %+v", c.next, w.Runs[0])
		}
	}
	w = serves(t, opened(t, 1, 1, "workflow w|next"), "begin x 0|lease 0 0")
	for chain := range 100 {
		w = serves(t, w, "take 0 0|write 0")
		if w.Runs[0].Closed != (chain == 99) {
			t.Fatalf("chain %d: %+v", chain, w.Runs[0])
		}
	}
	servBoards(t, w, "now 0|shard 0 term 1 until 4|x/99 anew 0, 2 written, 0 waiting")
}

// Box and what is left of the inbox are at most ServMaxInbox; what is too many goes, the last first.
func TestServBeginsAnewWithMuch(t *testing.T) {
	lines := flow(t, againFlow)
	boxed := func(box int, inbox []impl.RunHap) impl.ServRun {
		w := serves(t, opened(t, 1, 1, againFlow), "begin x 0 5|lease 0 0")
		list := impl.HistOf(lines, []int{5}, nil, nil, 0)
		for i := range box {
			list = grows(t, lines, list, signal("no", i))
		}
		w = changedServ(t, w, func(w *impl.ServWorld) {
			w.Runs[0].Hist, w.Runs[0].Inbox = list, append(haps(signal("go", 1)), inbox...)
		})
		return serves(t, w, "take 0 0|write 0").Runs[0]
	}
	many := func(name string, count int) []impl.RunHap {
		var list []impl.RunHap
		for i := range count {
			list = append(list, signal(name, i))
		}
		return list
	}
	for _, c := range []struct {
		box   int
		inbox []impl.RunHap
		want  []impl.RunHap
	}{
		{0, nil, nil},
		{19, nil, many("no", 19)},
		{0, many("go", 29), many("go", 29)},
		{1, many("go", 29), append(many("no", 1), many("go", 29)...)},
		{2, many("go", 29), append(many("no", 2), many("go", 28)...)},
		{19, many("go", 29), append(many("no", 19), many("go", 11)...)},
		{19, append(haps(fired(1), done(1, 1)), many("go", 11)...), append(many("no", 19), many("go", 11)...)},
		{19, append(many("go", 11), cancel()), append(many("no", 19), many("go", 11)...)},
		{19, append(many("go", 10), cancel(), cancel(), signal("go", 10)), append(append(many("no", 19), many("go", 10)...), cancel())},
		{19, append(many("go", 9), cancel(), cancel(), signal("go", 9), signal("go", 10)), append(append(many("no", 19), many("go", 9)...), cancel(), signal("go", 9))},
	} {
		if x := boxed(c.box, c.inbox); fmt.Sprint(x.Inbox) != fmt.Sprint(c.want) || x.Chain != 1 || len(x.Hist) > 0 {
			t.Errorf("%d in the box, %v: %+v", c.box, c.inbox, x)
		}
	}
}

func TestServTries(t *testing.T) {
	w := serves(t, writing(t), "tick")
	x := serves(t, w, "try 0 1")
	if fmt.Sprint(x.Effects, x.Runs[0].Tries, x.Runs[0].Inbox) != fmt.Sprint("[{x/0/0.0 -2 1}] [{1 1 4}] ", haps(done(1, -2))) {
		t.Error(x.Effects, x.Runs[0])
	}
	if got := impl.RunAnswer(someAsk(1, "0.0", "pay", 2)); got != -2 {
		t.Error(got)
	}
	// Each time it takes longer until the next; at Next it may be tried, a tick earlier not.
	w = serves(t, w, "lost 0 1")
	for tries := 2; tries <= 5; tries++ {
		wait := 3 * (tries - 1)
		w = serves(t, w, fmt.Sprintf("try 0 1=7|tick*%d|try 0 1=7|lost 0 1=7|tick|lost 0 1", wait-1))
		if got := fmt.Sprint(w.Effects, w.Runs[0].Tries, w.Runs[0].Inbox); got != fmt.Sprintf("[{x/0/0.0 -2 %d}] [{1 %d %d}] []", tries, tries, w.Now+3*tries) {
			t.Error(got)
		}
	}
	serves(t, w, "try 1 1=5|try -1 1=5|try 0 0=5|try 0 2=5|try 0 3=5|try 0 -1=5|try 1 9=5")
}

// Keys are by the run's name, its chain and the ask's key; what stands there already has its answer.
func TestServTriesKeys(t *testing.T) {
	w := serves(t, opened(t, 1, 1, "workflow w n|do a pay n undo back|both|do b mail a|and|do c mail a|end|return c"), "begin y 0 2|begin x 0 2|lease 0 0|take 0 0|take 0 1|write 0|write 0")
	w = serves(t, w, "try 1 1|try 0 1|take 0 0|take 0 1|write 0|write 0|lost 1 3|lost 0 2|lost 0 3|lost 1 2")
	var keys []string
	for _, e := range w.Effects {
		keys = append(keys, e.Key)
	}
	if strings.Join(keys, " ") != "x/0/0 x/0/0.1 x/0/1.1 y/0/0 y/0/0.1 y/0/1.1" {
		t.Error(keys)
	}
	w = serves(t, w, "cancel 0|take 0 0|write 0|try 0 4")
	if w.Effects[1].Key != "x/0/0-" || w.Runs[0].Inbox[0] != done(4, w.Effects[1].Answer) {
		t.Error(w.Effects, w.Runs[0])
	}
	x := changedServ(t, writing(t), func(w *impl.ServWorld) {
		w.Runs[0].Chain = 17
		w.Effects = []impl.ServEffect{{Key: "x/0/0.0", Answer: 7, Tries: 9}, {Key: "x/1/0.0", Answer: 7, Tries: 9}, {Key: "x/17/0.0", Answer: -9999, Tries: 99999}, {Key: "x/17/0.00", Answer: 7, Tries: 9}}
	})
	x = serves(t, x, "try 0 1")
	if got := fmt.Sprint(x.Effects, x.Runs[0].Tries, x.Runs[0].Inbox); got != fmt.Sprint("[{x/0/0.0 7 9} {x/1/0.0 7 9} {x/17/0.0 -9999 100000} {x/17/0.00 7 9}] [{1 1 3}] ", haps(done(1, -9999))) {
		t.Error(got)
	}
	serves(t, x, "tick*2|try 0 1=7|tick|try 0 1=4")
}

func TestServTriesCodes(t *testing.T) {
	w := serves(t, writing(t), "begin y 0 3|tick*5")
	serves(t, w, "try 1 1=5")
	tried := func(tries, next int) impl.ServWorld {
		return changedServ(t, w, func(w *impl.ServWorld) { w.Runs[0].Tries = []impl.ServTry{{Id: 1, Tries: tries, Next: next}} })
	}
	serves(t, tried(99999, 5), "try 0 1")
	serves(t, tried(100000, 5), "try 0 1=4")
	serves(t, tried(100000, 6), "try 0 1=7")
	serves(t, tried(1, math.MaxInt), "try 0 1=7|try 0 2=5")
	x := serves(t, tried(99999, 0), "try 0 1")
	if fmt.Sprint(x.Runs[0].Tries) != "[{1 100000 300005}]" {
		t.Error(x.Runs[0].Tries)
	}
	// Tries come among others, by their Id.
	odd := changedServ(t, w, func(w *impl.ServWorld) {
		w.Runs[0].Tries = []impl.ServTry{{Id: 2, Tries: 7, Next: 99}, {Id: 5, Tries: 1}}
	})
	if odd = serves(t, odd, "try 0 1"); fmt.Sprint(odd.Runs[0].Tries) != "[{1 1 8} {2 7 99} {5 1 0}]" {
		t.Error(odd.Runs[0].Tries)
	}
	effects := func(count int, key string) impl.ServWorld {
		return changedServ(t, w, func(w *impl.ServWorld) {
			w.Effects = nil
			for i := range count {
				w.Effects = append(w.Effects, impl.ServEffect{Key: fmt.Sprintf("a%03d", i), Tries: 1})
			}
			if key != "" {
				w.Effects[count-1].Key = key
			}
		})
	}
	serves(t, effects(199, ""), "try 0 1|lost 0 1=7")
	serves(t, effects(200, ""), "try 0 1=4|lost 0 1=4|try 0 9=5")
	serves(t, effects(200, "x/0/0.0"), "try 0 1")
	full := func(count int) impl.ServWorld {
		return changedServ(t, w, func(w *impl.ServWorld) { w.Runs[0].Inbox = slices.Repeat(haps(cancel()), count) })
	}
	// An inbox that is full does not get to know, but it is done all the same.
	x = serves(t, full(30), "try 0 1")
	if fmt.Sprint(x.Effects, x.Runs[0].Tries) != "[{x/0/0.0 -2 1}] [{1 1 8}]" || len(x.Runs[0].Inbox) != 30 {
		t.Error(x.Effects, x.Runs[0])
	}
	if x = serves(t, full(29), "try 0 1"); len(x.Runs[0].Inbox) != 30 || x.Runs[0].Inbox[29] != done(1, -2) {
		t.Error(x.Runs[0].Inbox)
	}
	closed := serves(t, w, "cancel 0|take 0 0|write 0|try 0 1=5")
	if !closed.Runs[0].Closed {
		t.Error("not closed")
	}
}

func TestServFires(t *testing.T) {
	w := serves(t, writing(t), "begin y 0 3|fire 0 2=7|fire 0 1=7|fire 0 3=7|fire 0 0=7|fire 1 2=7|fire 2 2=5|fire -1 2=5|fire 9 9=5|tick*4|fire 0 2=7|tick|fire 0 2|fire 0 2")
	if fmt.Sprint(w.Runs[0].Inbox) != fmt.Sprint(haps(fired(2), fired(2))) {
		t.Error(w.Runs[0].Inbox)
	}
	// The second one may not happen any more.
	w = serves(t, w, "take 0 0|write 0|fire 0 2=7|take 0 0|write 0")
	servBoards(t, w, "now 5|shard 0 term 1 until 4|x/0 live 0, 4 written, 0 waiting|y/0 live 0, 0 written, 0 waiting")
	dues := func(set func(x *impl.ServRun)) impl.ServWorld {
		return changedServ(t, writing(t), func(w *impl.ServWorld) {
			w.Runs[0].Dues = []impl.ServDue{{Id: 1, Tick: math.MinInt}, {Id: 2, Tick: 0}, {Id: 9999, Tick: 1}}
			set(&w.Runs[0])
		})
	}
	serves(t, dues(func(x *impl.ServRun) {}), "fire 0 1|fire 0 2|fire 0 9999=7|tick|fire 0 9999|fire 0 3=7")
	full := dues(func(x *impl.ServRun) { x.Inbox = slices.Repeat(haps(cancel()), 30) })
	serves(t, full, "fire 0 1=4|fire 0 9999=7|fire 0 3=7|fire 1 1=5")
	closed := dues(func(x *impl.ServRun) {
		x.Hist, x.Closed = append(x.Hist, hist(t, "cancel|end 4 -9003")...), true
		x.Inbox = slices.Repeat(haps(cancel()), 30)
	})
	serves(t, closed, "fire 0 1=6|fire 0 9999=7|fire 0 3=7")
}

func TestServFallsAndRises(t *testing.T) {
	w := serves(t, writing(t), "cancel 0|take 0 0|take 0 0|tick*5|lease 1 0|take 1 0")
	serves(t, w, "fall -1=5|fall 2=5|rise -1=5|rise 2=5")
	x := serves(t, w, "fall 0")
	want := copyServ(w)
	want.Workers[0] = impl.ServWorker{Terms: []int{0}}
	if servShape(x) != servShape(want) {
		t.Errorf("%s, asked for %s", servShape(x), servShape(want))
	}
	x = serves(t, x, "fall 0=7|write 0=7|take 0 0=7|lease 0 0=7|rise 0|rise 0|write 0=6|take 0 0=7")
	want.Workers[0].Up = true
	if servShape(x) != servShape(want) {
		t.Errorf("%s, asked for %s", servShape(x), servShape(want))
	}
	// Who is up rises without a change: it has all in its hands still.
	if x = serves(t, w, "rise 0|rise 1"); servShape(x) != servShape(w) {
		t.Errorf("%s, asked for %s", servShape(x), servShape(w))
	}
	serves(t, w, "fall 1|fall 0|rise 1|rise 0|tick*4|lease 0 0=7|tick|lease 0 0|take 0 0|write 0")
}

func TestServDeploys(t *testing.T) {
	w := serves(t, opened(t, 1, 1, orderFlow, orderFlow, "workflow v|return 1"), "begin x 0 2|begin y 1 2|begin z 1 2|lease 0 0|take 0 0|take 0 1|write 0|write 0")
	patched := flow(t, "workflow order n|do a pay n undo back|patch p|sleep 3|end|get b go|do c mail b|return c")
	other := flow(t, "workflow other m|do a pay m undo forth|return a")
	paid := flow(t, "workflow order n|do a paid n|return a")
	for _, place := range []int{-1, 3, math.MinInt, math.MaxInt} {
		does(t, w, evDeploy(place, patched), 5)
		does(t, w, evDeploy(place, nil), 5)
	}
	for _, lines := range [][]impl.FlowLine{nil, patched[:3], flow(t, "workflow order|return 1"), flow(t, "workflow order n m|do a pay n|return a")} {
		does(t, w, evDeploy(0, lines), 2)
		does(t, w, evDeploy(1, lines), 2)
	}
	x := does(t, w, evDeploy(0, patched), 0)
	if !same(x.Flows[0], patched) || !same(x.Flows[1], w.Flows[1]) || fmt.Sprint(x.Runs, x.Workers) != fmt.Sprint(w.Runs, w.Workers) {
		t.Errorf("%s", servShape(x))
	}
	does(t, w, evDeploy(1, other), 0)
	does(t, w, evDeploy(0, paid), 9)
	does(t, w, evDeploy(1, paid), 9)
	// A flow without runs, or none with a history, is changed to anything with as many names.
	does(t, w, evDeploy(2, flow(t, "workflow u|do a x|return a")), 0)
	does(t, w, evDeploy(2, patched), 2)
	bare := serves(t, opened(t, 1, 1, orderFlow, orderFlow), "begin x 0 2|begin y 1 2|begin z 1 2|lease 0 0|take 0 0|write 0")
	does(t, bare, evDeploy(1, paid), 0)
	does(t, bare, evDeploy(0, paid), 9)
	// The last run counts as the first, also if it is closed.
	bare = serves(t, bare, "take 0 2|write 0|cancel 2|take 0 2|write 0")
	does(t, bare, evDeploy(1, paid), 9)
	does(t, bare, evDeploy(1, other), 0)
}

// What is in hands is not written, if the flow says something else by now; what was written before is gone on with by the new one.
func TestServDeploysWithTasks(t *testing.T) {
	w := serves(t, opened(t, 1, 1, "workflow w|do a pay|do b mail|return b"), "begin x 0|lease 0 0|take 0 0|write 0|try 0 1|take 0 0")
	other := flow(t, "workflow w|do a pay|sleep 4|return a")
	x := does(t, w, evDeploy(0, other), 0)
	x = serves(t, x, "write 0=8|take 0 0|write 0")
	if got := rowsBy(x.Runs[0].Hist[2:]); got != fmt.Sprintf("done 1 %d|ask 2 1 - 4", x.Effects[0].Answer) {
		t.Error(got)
	}
	// The same asked for is the same: it is written.
	like := flow(t, "workflow w|do a pay|do b mail|return a")
	serves(t, does(t, w, evDeploy(0, like), 0), "write 0")
	// A run that has not begun begins by the new one.
	w = serves(t, opened(t, 1, 1, "workflow w|do a pay|do b mail|return b"), "begin x 0|lease 0 0|take 0 0")
	x = does(t, w, evDeploy(0, flow(t, "workflow w|patch p|sleep 4|end|return 1")), 0)
	x = serves(t, x, "write 0=8|take 0 0|write 0")
	if got := rowsBy(x.Runs[0].Hist); got != "start|mark p|ask 1 0 - 4" {
		t.Error(got)
	}
}

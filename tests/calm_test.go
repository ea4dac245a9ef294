package tests

import (
	"fmt"
	"math"
	"slices"
	"testing"

	"loop.example/dunlin/impl"
)

// The document's example, line by line.
func TestServExample(t *testing.T) {
	w := opened(t, 1, 2, orderFlow)
	for _, c := range []struct{ script, board string }{
		{"begin x 0 2", "now 0|shard -1 term 0 until 0|x/0 live 0, 0 written, 0 waiting"},
		{"lease 0 0", "now 0|shard 0 term 1 until 4|x/0 live 0, 0 written, 0 waiting"},
		{"take 0 0", "now 0|shard 0 term 1 until 4|x/0 live 0, 0 written, 0 waiting"},
		{"write 0", "now 0|shard 0 term 1 until 4|x/0 live 0, 2 written, 0 waiting"},
		{"lost 0 1", "now 0|shard 0 term 1 until 4|x/0 live 0, 2 written, 0 waiting|x/0/0 3, tried 1"},
		{"signal 0 77 go 3", "now 0|shard 0 term 1 until 4|x/0 live 0, 2 written, 1 waiting|x/0/0 3, tried 1"},
		{"take 0 0", "now 0|shard 0 term 1 until 4|x/0 live 0, 2 written, 1 waiting|x/0/0 3, tried 1"},
		{"fall 1", "now 0|shard 0 term 1 until 4|x/0 live 0, 2 written, 1 waiting|x/0/0 3, tried 1"},
		{"rise 1", "now 0|shard 0 term 1 until 4|x/0 live 0, 2 written, 1 waiting|x/0/0 3, tried 1"},
		{"tick*5", "now 5|shard 0 term 1 until 4|x/0 live 0, 2 written, 1 waiting|x/0/0 3, tried 1"},
		{"lease 1 0", "now 5|shard 1 term 2 until 9|x/0 live 0, 2 written, 1 waiting|x/0/0 3, tried 1"},
		{"write 0=8", "now 5|shard 1 term 2 until 9|x/0 live 0, 2 written, 1 waiting|x/0/0 3, tried 1"},
		{"signal 0 77 go 3", "now 5|shard 1 term 2 until 9|x/0 live 0, 2 written, 1 waiting|x/0/0 3, tried 1"},
	} {
		w = serves(t, w, c.script)
		servBoards(t, w, c.board)
		if !impl.ServSafe(w) {
			t.Errorf("behind %s: not safe", c.script)
		}
	}
	for _, board := range []string{
		"now 6|shard 1 term 2 until 10|x/0 live 0, 5 written, 0 waiting|x/0/0 3, tried 2",
		"now 7|shard 1 term 2 until 11|x/0 done -1, 7 written, 0 waiting|x/0/0 3, tried 2|x/0/1 -1, tried 1",
		"now 8|shard 1 term 2 until 12|x/0 done -1, 7 written, 0 waiting|x/0/0 3, tried 2|x/0/1 -1, tried 1",
	} {
		w = calms(t, w, 1)
		servBoards(t, w, board)
	}
	if got := rowsBy(w.Runs[0].Hist); got != "start 2|ask 1 0 pay 2|signal go 3|done 1 3|ask 2 1 mail 3|done 2 -1|end 1 -1" {
		t.Error(got)
	}
}

func TestServCalmRounds(t *testing.T) {
	w := fullWorld(t)
	for _, rounds := range []int{0, -1, math.MinInt} {
		if x := impl.ServCalm(w, rounds); servShape(x) != servShape(w) {
			t.Errorf("%d rounds: %s", rounds, servShape(x))
		}
	}
	most := impl.ServCalm(w, 300)
	for _, rounds := range []int{301, 1000, math.MaxInt} {
		if x := impl.ServCalm(w, rounds); servShape(x) != servShape(most) {
			t.Errorf("%d rounds: %s", rounds, impl.ServBoard(x))
		}
	}
	if most.Now != 301 || impl.ServCalm(w, 299).Now != 300 {
		t.Errorf("now %d", most.Now)
	}
	for _, rounds := range []int{1, 2, 7} {
		calms(t, w, rounds)
	}
	// A time that has come to its end lets all else go on.
	late := changedServ(t, w, func(w *impl.ServWorld) { w.Now = 99999 })
	late = calms(t, late, 4)
	if late.Now != 100000 || late.Shards[0].Until != 100004 || len(late.Runs[3].Hist) == 0 {
		t.Errorf("%s", impl.ServBoard(late))
	}
	for run := range w.Runs {
		if !most.Runs[run].Closed {
			t.Errorf("not closed: %+v", most.Runs[run])
		}
	}
	notOk(t, "nothing", impl.ServWorld{})
}

// Who has nothing in hands goes on with each run three times in a round.
func TestServCalmTasks(t *testing.T) {
	w := serves(t, opened(t, 1, 1, "workflow w|get a go|get b go|get c go|get d go|return d"), "begin x 0|begin y 0")
	for i := range 4 {
		w = serves(t, w, fmt.Sprintf("signal 0 %d go %d|signal 1 %d go %d", i, i, 9+i, i))
	}
	for _, board := range []string{
		"now 1|shard 0 term 1 until 5|x/0 live 0, 3 written, 2 waiting|y/0 live 0, 3 written, 2 waiting",
		"now 2|shard 0 term 1 until 6|x/0 done 3, 6 written, 0 waiting|y/0 done 3, 6 written, 0 waiting",
	} {
		w = calms(t, w, 1)
		servBoards(t, w, board)
	}
	if len(w.Workers[0].Tasks) != 0 {
		t.Errorf("%+v", w.Workers)
	}
}

// What a worker has in its hands from before is written first, whichever run it is of.
func TestServCalmWithTasksInHands(t *testing.T) {
	w := opened(t, 3, 2, waitFlow, "workflow v|sleep 1|get a go|return a")
	w = serves(t, w, "begin a 0 2|begin b 1|begin c 0 4|begin d 1|lease 0 0|lease 0 1|lease 0 2|signal 3 1 go 2|take 0 3|take 0 2|take 0 3|take 0 0")
	for _, script := range []string{"tick", "write 0|take 0 1|tick", "take 0 1|take 0 2", "fall 1", "tick*5|lease 1 0|lease 1 1|take 1 0|take 1 1|take 1 2|take 1 3", "write 0|write 0|write 0|write 0|cancel 0|cancel 2|take 0 0|take 0 0|take 0 2"} {
		x := w
		for _, e := range servDeeds.events(t, script) {
			x, _ = impl.ServDo(x, e.event)
		}
		for _, rounds := range []int{1, 2, 3, 9} {
			calms(t, x, rounds)
		}
	}
	w = calms(t, w, 9)
	servBoards(t, w, "now 9|shard 0 term 1 until 13|shard 0 term 1 until 13|shard 0 term 1 until 13|a/0 live 0, 6 written, 0 waiting|b/0 live 0, 3 written, 0 waiting|c/0 live 0, 6 written, 0 waiting|d/0 done 2, 5 written, 0 waiting|a/0/0.0 -2, tried 1|c/0/0.0 0, tried 1")
}

func TestServCalmWithWorkersDown(t *testing.T) {
	w := serves(t, opened(t, 1, 3, waitFlow), "begin x 0 2|fall 0|fall 2|lease 1 0")
	x := calms(t, w, 2)
	servBoards(t, x, "now 2|shard 1 term 1 until 6|x/0 live 0, 4 written, 0 waiting|x/0/0.0 -2, tried 1")
	// With nobody up only time passes.
	x = calms(t, serves(t, x, "fall 1"), 3)
	servBoards(t, x, "now 5|shard 1 term 1 until 6|x/0 live 0, 4 written, 0 waiting|x/0/0.0 -2, tried 1")
	// Who rises gets the shard, when it is not held any more.
	x = calms(t, serves(t, x, "rise 2"), 1)
	servBoards(t, x, "now 6|shard 1 term 1 until 6|x/0 live 0, 4 written, 1 waiting|x/0/0.0 -2, tried 1")
	x = calms(t, x, 1)
	servBoards(t, x, "now 7|shard 2 term 2 until 11|x/0 live 0, 6 written, 0 waiting|x/0/0.0 -2, tried 1")
	calms(t, x, 12)
}

// The last effects go to the runs that come first.
func TestServCalmWithFullEffects(t *testing.T) {
	w := serves(t, opened(t, 3, 1, waitFlow), "begin a 0 2|begin b 0 3|begin c 0 4|begin d 0 5")
	w = changedServ(t, w, func(w *impl.ServWorld) {
		for i := range 198 {
			w.Effects = append(w.Effects, impl.ServEffect{Key: fmt.Sprintf("k%03d", i), Tries: 1})
		}
	})
	w = calms(t, w, 8)
	if w.Effects[0].Key != "a/0/0.0" || w.Effects[1].Key != "b/0/0.0" || len(w.Effects) != 200 || len(w.Runs[2].Tries) != 0 {
		t.Errorf("%s", impl.ServBoard(w))
	}
}

// A history that is full stays as it is; what comes waits, until the inbox is full, too.
func TestServCalmWithFullHistories(t *testing.T) {
	w := changedServ(t, nearlyFull(t, 399), func(w *impl.ServWorld) { w.Runs[0].Inbox = haps(fired(9)) })
	w = calms(t, w, 30)
	servBoards(t, w, "now 30|shard 0 term 1 until 34|x/0 live -9003, 399 written, 4 waiting|x/0/1- 0, tried 4")
	w = impl.ServCalm(impl.ServCalm(impl.ServCalm(impl.ServCalm(impl.ServCalm(w, 300), 300), 300), 300), 300)
	if len(w.Runs[0].Inbox) != 30 || w.Runs[0].Tries[0].Tries != w.Effects[0].Tries || w.Effects[0].Tries < 31 || !impl.ServOk(w) {
		t.Errorf("%s", impl.ServBoard(w))
	}
}

// A run that begins anew again and again goes on doing so, until its chain is at its end.
func TestServCalmAnew(t *testing.T) {
	w := serves(t, opened(t, 1, 1, "workflow w n|do a x n|let n add n 1|next n"), "begin x 0 0")
	w = calms(t, w, 40)
	if w.Runs[0].Chain < 30 || len(w.Effects) < 30 {
		t.Errorf("%s", impl.ServBoard(w))
	}
	w = impl.ServCalm(w, 300)
	if w.Runs[0].Chain != 99 || !w.Runs[0].Closed || len(w.Effects) != 100 || !impl.ServSafe(w) {
		t.Errorf("%s", impl.ServBoard(w))
	}
	if x := impl.ServCalm(w, 20); fmt.Sprint(x.Runs, x.Effects) != fmt.Sprint(w.Runs, w.Effects) {
		t.Error("what is over went on")
	}
}

func TestServSafe(t *testing.T) {
	w := serves(t, opened(t, 1, 3, "workflow w n|do a pay n undo back|do b mail n|sleep 3|return a"), "begin x 0 2|begin y 0 2|lease 0 0|tick*5|lease 1 0|take 1 0|write 1|try 0 1|take 1 0|write 1|try 0 2|take 1 0|write 1|cancel 0|take 1 0|write 1|try 0 4|take 1 0|write 1")
	if got := rowsBy(w.Runs[0].Hist); got != "start 2|ask 1 0 pay 2|done 1 3|ask 2 1 mail 2|done 2 -2|ask 3 2 - 3|cancel|ask 4 0- back 3|done 4 1|end 4 -9003" {
		t.Fatal(got)
	}
	for _, c := range []struct {
		what string
		safe bool
		make func(w *impl.ServWorld)
	}{
		{"as it is", true, func(w *impl.ServWorld) {}},
		{"one term with two", false, func(w *impl.ServWorld) { w.Workers[0].Terms[0] = 2 }},
		{"one term with one that is down", false, func(w *impl.ServWorld) { w.Workers[2].Terms[0], w.Workers[2].Up = 2, false }},
		{"one term with all", false, func(w *impl.ServWorld) { w.Workers[0].Terms[0], w.Workers[2].Terms[0] = 2, 2 }},
		{"a term that is over with two", true, func(w *impl.ServWorld) { w.Workers[2].Terms[0] = 1 }},
		{"the term with none", true, func(w *impl.ServWorld) { w.Workers[1].Terms[0] = 0 }},
		{"the term with another one than the owner", true, func(w *impl.ServWorld) { w.Workers[1].Terms[0], w.Workers[2].Terms[0] = 0, 2 }},
		{"no term", true, func(w *impl.ServWorld) {
			w.Shards[0].Owner, w.Shards[0].Term = -1, 0
			for i := range w.Workers {
				w.Workers[i].Terms[0] = 0
			}
		}},
		{"the first effect is missing", false, func(w *impl.ServWorld) { w.Effects = w.Effects[1:] }},
		{"that of what was undone is missing", false, func(w *impl.ServWorld) { w.Effects = slices.Delete(w.Effects, 1, 2) }},
		{"the last one is missing", false, func(w *impl.ServWorld) { w.Effects = w.Effects[:2] }},
		{"all are missing", false, func(w *impl.ServWorld) { w.Effects = nil }},
		{"another answer", false, func(w *impl.ServWorld) { w.Effects[0].Answer = 4 }},
		{"another answer to what was undone", false, func(w *impl.ServWorld) { w.Effects[1].Answer = 4 }},
		{"another answer to the last", false, func(w *impl.ServWorld) { w.Effects[2].Answer = 4 }},
		{"tried more often", true, func(w *impl.ServWorld) { w.Effects[2].Tries = 99 }},
		{"another effect", true, func(w *impl.ServWorld) {
			w.Effects = append(w.Effects, impl.ServEffect{Key: "z", Answer: 1, Tries: 1})
		}},
		{"another chain", false, func(w *impl.ServWorld) { w.Runs[0].Chain = 1 }},
		{"another name", false, func(w *impl.ServWorld) { w.Runs[0].Name = "w" }},
		{"another name of the other", true, func(w *impl.ServWorld) { w.Runs[1].Name = "z" }},
		{"the second run's", false, func(w *impl.ServWorld) { w.Runs[1].Hist = copyHist(w.Runs[0].Hist[:4]) }},
		{"what broke was never done", true, func(w *impl.ServWorld) {
			w.Runs[1].Hist = append(copyHist(w.Runs[0].Hist[:2]), hist(t, "broke 1 3|end 2 3")...)
			w.Runs[1].Closed = true
		}},
	} {
		x := changedServ(t, w, c.make)
		if impl.ServSafe(x) != c.safe || safeBy(x) != c.safe {
			t.Errorf("%s: safe is not %v, %v by hand", c.what, c.safe, safeBy(x))
		}
	}
}

func TestServBoards(t *testing.T) {
	w := opened(t, 3, 2, "workflow w n|do a x n undo y|if n less 0|fail n|end|if n less 3|next|end|sleep n|return n")
	w = serves(t, w, "begin e 0 -4|begin f 0 2|begin g 0 9|begin h 0 9|begin i 0 9|begin j 0 9999|cancel 2|tick*2|lease 1 2|lease 0 1")
	servBoards(t, w, "now 2|shard -1 term 0 until 0|shard 0 term 1 until 6|shard 1 term 1 until 6|e/0 live 0, 0 written, 0 waiting|f/0 live 0, 0 written, 0 waiting|g/0 live 0, 0 written, 1 waiting|h/0 live 0, 0 written, 0 waiting|i/0 live 0, 0 written, 0 waiting|j/0 live 0, 0 written, 0 waiting")
	w = calms(t, w, 3)
	servBoards(t, w, "now 5|shard 0 term 1 until 9|shard 0 term 1 until 9|shard 1 term 1 until 9|e/0 failed -4, 6 written, 0 waiting|f/0 anew 0, 4 written, 0 waiting|g/0 stopped -9003, 4 written, 0 waiting|h/0 live 0, 4 written, 0 waiting|i/0 live 0, 4 written, 0 waiting|j/0 live 0, 4 written, 0 waiting|e/0/0 3, tried 1|e/0/0- 3, tried 1|f/0/0 2, tried 1|h/0/0 2, tried 1|i/0/0 2, tried 1|j/0/0 -2, tried 1")
	// A run that is ending is live, with the number with which it ends.
	x := serves(t, w, "cancel 4|take 0 4|write 0")
	x = serves(t, x, "tick*10|fire 3 2|take 0 3=7|take 1 3|write 1")
	servBoards(t, x, "now 15|shard 0 term 1 until 9|shard 0 term 1 until 9|shard 1 term 1 until 9|e/0 failed -4, 6 written, 0 waiting|f/0 anew 0, 4 written, 0 waiting|g/0 stopped -9003, 4 written, 0 waiting|h/0 done 9, 6 written, 0 waiting|i/0 live -9003, 6 written, 0 waiting|j/0 live 0, 4 written, 0 waiting|e/0/0 3, tried 1|e/0/0- 3, tried 1|f/0/0 2, tried 1|h/0/0 2, tried 1|i/0/0 2, tried 1|j/0/0 -2, tried 1")
}

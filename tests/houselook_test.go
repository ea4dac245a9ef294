package tests

import (
	"fmt"
	"math"
	"slices"
	"strings"
	"testing"

	"loop.example/dunlin/impl"
)

// The document's example, its boards word for word, and those between.
func TestHouseExample(t *testing.T) {
	h := jobs(t, impl.PlanWaitOne, 6)
	houseBoards(t, h, "now 0|shard -1 term 0 until 0|plan p|last -1, next 2|goes|waits")
	h = lives(t, h, "tick*3|look")
	houseBoards(t, h, "now 3|shard -1 term 0 until 0|p2/0 live 0, 0 written, 0 waiting|plan p|last 3, next 6|goes 2|waits|2 began")
	h = rests(t, h, 3)
	houseBoards(t, h, "now 6|shard 0 term 1 until 10|p2/0 live 0, 4 written, 0 waiting|p2/0/0 -2, tried 1|plan p|last 6, next 10|goes 2|waits 6|2 began")
	h = rests(t, h, 2)
	houseBoards(t, h, "now 8|shard 0 term 1 until 12|p6/0 live 0, 0 written, 0 waiting|p2/0/0 -2, tried 1|plan p|last 8, next 10|goes 6|waits|2 began|2 ended|6 began|past p2 done -2")
	h = rests(t, h, 14)
	houseBoards(t, h, "now 22|shard 0 term 1 until 26|p14/0 live 0, 4 written, 0 waiting|p10/0/0 -2, tried 1|p14/0/0 -2, tried 1|p2/0/0 -2, tried 1|p6/0/0 -2, tried 1|plan p|last 22, next -1|goes 14|waits|2 began|2 ended|6 began|6 ended|10 began|18 skipped|10 ended|14 began|past p10 done -2|past p2 done -2|past p6 done -2")
	if !impl.HouseSafe(h) {
		t.Error("not safe")
	}
	h = rests(t, h, 20)
	boardHas(t, h, "plan p|last 42, next -1|goes|waits|2 began|2 ended|6 began|6 ended|10 began|18 skipped|10 ended|14 began|14 ended|past p10 done -2|past p14 done -2|past p2 done -2|past p6 done -2")
}

// What the five policies make of the same times.
func TestHousePolicies(t *testing.T) {
	for _, c := range []struct {
		policy             int
		runs, told, behind string
	}{
		{impl.PlanSkip, "p2", "goes 2|waits|2 began|6 skipped|10 skipped", "past p18 done -2|past p2 done -2"},
		{impl.PlanWaitOne, "p2", "goes 2|waits 6|2 began|10 skipped", "past p18 done -2|past p2 done -2|past p6 done -2"},
		{impl.PlanWaitAll, "p2", "goes 2|waits 6 10|2 began", "past p10 done -2|past p14 done -2|past p18 done -2|past p2 done -2|past p6 done -2"},
		{impl.PlanBoth, "p10 p2 p6", "goes 2 6 10|waits|2 began|6 began|10 began", "past p10 done -2|past p14 done -2|past p18 done -2|past p2 done -2|past p6 done -2"},
		{impl.PlanInstead, "p10", "goes 10|waits|2 began|2 stopped|6 began|6 stopped|10 began", "past p10 stopped -9003|past p14 stopped -9003|past p18 done -2"},
	} {
		h := lives(t, jobs(t, c.policy, 90), "tick*11|look")
		if runsOf(h) != c.runs || len(h.Owes) > 0 {
			t.Errorf("policy %d: %s, owes %s", c.policy, runsOf(h), owesOf(h))
		}
		boardHas(t, h, "plan p|last 11, next 14|"+c.told)
		h = rests(t, h, 40)
		if got := impl.HouseBoard(h); !strings.HasSuffix(strings.ReplaceAll(strings.TrimSuffix(got, "\n"), "\n", "|"), "|"+c.behind) || !impl.HouseSafe(h) || len(h.Serv.Runs) > 0 {
			t.Errorf("policy %d: %q", c.policy, got)
		}
	}
}

// Plans are looked at in order, each run with its plan's flow and numbers.
func TestHouseOfSeveralPlans(t *testing.T) {
	h := housed(t, flowsOf(t, jobFlow, "workflow pair n m|sleep n|return m", "workflow tiny|return 1"), 3, 3,
		housePlan("a", 1, []int{2, 5}, impl.PlanBoth, 9, rule(2, 0, 0, 30)),
		housePlan("b", 2, nil, impl.PlanSkip, 9, rule(3, 0, 0, 30)),
		housePlan("c", 0, []int{7}, impl.PlanInstead, 9, rule(4, 0, 0, 30)))
	h = lives(t, h, "look")
	if runsOf(h) != "a0 b0 c0" || h.Serv.Runs[0].Flow != 1 || fmt.Sprint(h.Serv.Runs[0].Args) != "[2 5]" || h.Serv.Runs[1].Flow != 2 || len(h.Serv.Runs[1].Args) != 0 || fmt.Sprint(h.Serv.Runs[2].Args) != "[7]" {
		t.Errorf("%+v", h.Serv.Runs)
	}
	h = rests(t, h, 12)
	if !impl.HouseSafe(h) || len(h.Past) < 8 {
		t.Error(impl.HouseBoard(h))
	}
	for _, past := range h.Past {
		want := map[byte]impl.HousePast{'a': {Stands: 1, Result: 5}, 'b': {Stands: 1, Result: 1}, 'c': {Stands: 4, Result: -9003}}[past.Name[0]]
		if past.Stands != want.Stands || past.Result != want.Result {
			t.Errorf("%+v", past)
		}
	}
}

// six is a house in which six runs are, so that there is room for no more.
func six(t *testing.T, policy, window int) impl.House {
	t.Helper()
	h := housed(t, flowsOf(t, jobFlow, "workflow tiny|return 1"), 1, 1, housePlan("p", 0, []int{2}, policy, window, rule(4, 2, 0, 20)))
	return lives(t, h, "begin aa 1|begin bb 1|begin cc 1|begin q 1|begin r 1|begin s 1|lease 0 0")
}

// over writes a run of `tiny`, which is over then, and puts it away.
func over(run int) string {
	return fmt.Sprintf("take 0 %d|write 0|keep %d", run, run)
}

// A time that is stopped ahead of its run's beginning never has a run.
func TestStoppedAheadOfItsBeginning(t *testing.T) {
	// By one look.
	h := lives(t, jobs(t, impl.PlanInstead, 90), "tick*7|look")
	boardHas(t, h, "p6/0 live 0, 0 written, 0 waiting|plan p|last 7, next 10|goes 6|waits|2 began|2 stopped|6 began")
	if runsOf(h) != "p6" || len(h.Owes) != 0 {
		t.Error(impl.HouseBoard(h))
	}
	h = rests(t, h, 9)
	if slices.ContainsFunc(h.Past, func(p impl.HousePast) bool { return p.Name == "p2" }) {
		t.Error(impl.HouseBoard(h))
	}
	// By two looks, as there was no room.
	h = lives(t, six(t, impl.PlanInstead, 90), "tick*3|look")
	boardHas(t, h, "plan p|last 3, next 6|goes 2|waits|2 began|owes begins p2")
	h = lives(t, h, "tick*4|look")
	boardHas(t, h, "plan p|last 7, next 10|goes 6|waits|2 began|2 stopped|6 began|owes begins p6")
	h = lives(t, h, over(1)+"|look|look")
	if runsOf(h) != "aa cc p6 q r s" || len(h.Owes) != 0 {
		t.Error(impl.HouseBoard(h))
	}
	// What room there is comes ahead of what the look stops.
	h = lives(t, six(t, impl.PlanInstead, 90), "tick*3|look|"+over(0)+"|tick*4|look")
	if runsOf(h) != "bb cc p2 q r s" || owesOf(h) != "begins p6" || fmt.Sprint(h.Serv.Runs[2].Inbox) != "[{5 0  0}]" {
		t.Error(impl.HouseBoard(h))
	}
}

// A time that is stopped while its run is there has it cancelled, unless it is over.
func TestStoppedWhileItsRunIsThere(t *testing.T) {
	h := lives(t, jobs(t, impl.PlanInstead, 90), "tick*3|look|tick*3|look")
	boardHas(t, h, "p2/0 live 0, 0 written, 1 waiting|p6/0 live 0, 0 written, 0 waiting|plan p|last 6, next 10|goes 6|waits|2 began|2 stopped|6 began")
	if len(h.Owes) != 0 || fmt.Sprint(h.Serv.Runs[0].Inbox) != "[{5 0  0}]" {
		t.Error(impl.HouseBoard(h))
	}
	// It is put away behind that.
	h = lives(t, h, "keep 0=6|lease 0 0|take 0 0|write 0|take 0 0|write 0|keep 1=6|keep 0")
	boardHas(t, h, "2 began|2 stopped|6 began|past p2 stopped -9003")
	// One that is over is stopped, and not cancelled, when another time takes its place by the look that would end it.
	h = lives(t, six(t, impl.PlanInstead, 90), over(0)+"|tick*3|look|"+over(0))
	h = changedHouse(t, h, func(h *impl.House) { h.Plans[0].Flow, h.Plans[0].Args = 1, nil })
	h = lives(t, h, "tick*3|look|take 0 2|write 0")
	if runsOf(h) != "cc p2 p6 q r s" || !impl.HouseSafe(h) || len(h.Serv.Runs[1].Inbox) != 1 {
		t.Fatal(impl.HouseBoard(h))
	}
	h = lives(t, h, "tick*4|look")
	boardHas(t, h, "goes 10|waits|2 began|2 stopped|6 began|6 stopped|10 began|owes begins p10|past aa done 1|past bb done 1")
	if len(h.Serv.Runs[2].Inbox) != 0 {
		t.Error(impl.HouseBoard(h))
	}
	h = lives(t, h, "keep 2|look")
	if runsOf(h) != "cc p10 p2 q r s" {
		t.Error(impl.HouseBoard(h))
	}
	// One that was put away is not there, so nothing is owed.
	h = changedHouse(t, lives(t, jobs(t, impl.PlanInstead, 90), "tick*3|look"), func(h *impl.House) {
		h.Serv.Runs, h.Past = nil, []impl.HousePast{{Name: "p2", Stands: 1}}
	})
	h = lives(t, h, "tick*3|look")
	boardHas(t, h, "goes 6|waits|2 began|2 stopped|6 began|past p2 done 0")
}

// A cancelling is owed as long as there is no room for it in the inbox; a time that is stopped again is owed it once.
func TestStoppedTwice(t *testing.T) {
	h := lives(t, jobs(t, impl.PlanInstead, 90), "tick*3|look|cancel 0*30|tick*3|look")
	boardHas(t, h, "goes 6|waits|2 began|2 stopped|6 began|owes cancels p2")
	h = lives(t, h, "look|keep 0=6")
	boardHas(t, h, "goes 6|waits|2 began|2 stopped|6 began|owes cancels p2")
	again := changedHouse(t, h, func(h *impl.House) {
		h.Plans[0].Plan.Goes = []int{2}
		h.Serv.Runs = h.Serv.Runs[:1]
	})
	again = lives(t, again, "tick*4|look")
	boardHas(t, again, "goes 10|waits|2 began|2 stopped|6 began|2 stopped|10 began|owes cancels p2")
	// One that is over is not put away as long as it is owed that.
	h = lives(t, h, "lease 0 0|take 0 0|write 0|take 0 0|write 0")
	if !h.Serv.Runs[0].Closed || len(h.Serv.Runs[0].Inbox) != 29 {
		t.Fatal(impl.HouseBoard(h))
	}
	h = lives(t, h, "keep 0=6|look|keep 0")
	boardHas(t, h, "2 began|2 stopped|6 began|past p2 stopped -9003")
	// Room comes again while it is live.
	h = lives(t, jobs(t, impl.PlanInstead, 90), "tick*3|look|lease 0 0|take 0 0|write 0|try 0 1|try 0 1=7|take 0 0|write 0")
	for i := range 20 {
		h = lives(t, h, fmt.Sprintf("signal 0 %d go 1", i))
	}
	h = changedHouse(t, h, func(h *impl.House) {
		h.Serv.Runs[0].Inbox = append(h.Serv.Runs[0].Inbox, slices.Repeat(haps(done(9, 1)), 10)...)
	})
	h = lives(t, h, "tick*3|look|look|take 0 0|write 0")
	if owesOf(h) != "cancels p2" || len(h.Serv.Runs[0].Inbox) != 29 {
		t.Fatal(impl.HouseBoard(h))
	}
	h = lives(t, h, "look|look")
	if owesOf(h) != "" || len(h.Serv.Runs[0].Inbox) != 30 || h.Serv.Runs[0].Inbox[29].Kind != impl.HapCancel {
		t.Error(impl.HouseBoard(h))
	}
}

// What has no room is owed, in order, and begins when there is room again.
func TestOwedUntilThereIsRoom(t *testing.T) {
	h := lives(t, six(t, impl.PlanBoth, 90), "tick*11|look")
	boardHas(t, h, "goes 2 6 10|waits|2 began|6 began|10 began|owes begins p2|owes begins p6|owes begins p10")
	h = lives(t, h, "look")
	boardHas(t, h, "goes 2 6 10|waits|2 began|6 began|10 began|owes begins p2|owes begins p6|owes begins p10")
	h = lives(t, h, over(0)+"|"+over(3)+"|look")
	if runsOf(h) != "bb cc p2 p6 q s" || owesOf(h) != "begins p10" {
		t.Error(impl.HouseBoard(h))
	}
	// What is owed goes ahead of what comes by the look.
	h = lives(t, h, over(0)+"|tick*3|look")
	if runsOf(h) != "cc p10 p2 p6 q s" || owesOf(h) != "begins p14" {
		t.Error(impl.HouseBoard(h))
	}
	h = lives(t, h, "tick*4|look")
	if owesOf(h) != "begins p14, begins p18" {
		t.Error(impl.HouseBoard(h))
	}
	h = rests(t, h, 12)
	if !impl.HouseSafe(h) || len(h.Past) != 11 {
		t.Error(impl.HouseBoard(h))
	}
	// Of several plans, too; a person's run may take the room.
	h = housed(t, flowsOf(t, jobFlow, "workflow tiny|return 1"), 1, 1,
		housePlan("a", 1, nil, impl.PlanWaitAll, 90, rule(1, 0, 0, 9)),
		housePlan("b", 1, nil, impl.PlanSkip, 90, rule(1, 0, 0, 9)),
		housePlan("c", 1, nil, impl.PlanInstead, 90, rule(1, 0, 0, 9)))
	h = lives(t, h, "begin k 1|begin l 1|begin m 1|begin n 1|begin o 1|lease 0 0|look")
	if runsOf(h) != "a0 k l m n o" || owesOf(h) != "begins b0, begins c0" {
		t.Error(impl.HouseBoard(h))
	}
	h = lives(t, h, over(1)+"|begin x 1|begin y 1=4|tick|look")
	if runsOf(h) != "a0 l m n o x" || owesOf(h) != "begins b0, begins c1" {
		t.Error(impl.HouseBoard(h))
	}
}

// A look ends what is over, and what waits goes on then, by the same look.
func TestLookEnds(t *testing.T) {
	h := housed(t, flowsOf(t, "workflow tiny|return 1"), 1, 1, housePlan("p", 0, nil, impl.PlanWaitAll, 6, rule(2, 0, 0, 90)))
	h = lives(t, h, "look|tick*5|look|lease 0 0|take 0 0|write 0|keep 0=6|look")
	boardHas(t, h, "p0/0 done 1, 2 written, 0 waiting|p2/0 live 0, 0 written, 0 waiting|plan p|last 5, next 6|goes 2|waits 4|0 began|0 ended|2 began")
	h = lives(t, h, "look|keep 0|look|take 0 0|write 0|tick*8|look")
	boardHas(t, h, "p2/0 done 1, 2 written, 0 waiting|p8/0 live 0, 0 written, 0 waiting|plan p|last 13, next 14|goes 8|waits 10 12|0 began|0 ended|2 began|6 missed|2 ended|4 missed|8 began|past p0 done 1")
	// Several that go on end in order, whichever was over first.
	h = housed(t, flowsOf(t, "workflow tiny|return 1"), 1, 1, housePlan("p", 0, nil, impl.PlanBoth, 6, rule(2, 0, 0, 90)))
	h = lives(t, h, "tick*6|look|lease 0 0|take 0 3|write 0|take 0 0|write 0|take 0 2|write 0|tick|look")
	boardHas(t, h, "plan p|last 7, next 8|goes 2|waits|0 began|2 began|4 began|6 began|0 ended|4 ended|6 ended")
	// A time whose run was put away while it went on ends, too.
	h = changedHouse(t, h, func(h *impl.House) {
		h.Plans[0].Plan.Goes = []int{2, 4}
		h.Serv.Runs = slices.Delete(h.Serv.Runs, 2, 3)
		h.Past = []impl.HousePast{{Name: "p4", Stands: 1, Result: 1}}
	})
	h = lives(t, h, "look")
	boardHas(t, h, "plan p|last 7, next 8|goes 2|waits|0 began|2 began|4 began|6 began|0 ended|4 ended|6 ended|4 ended|past p4 done 1")
}

// A run that has begun already, by whichever way, is not owed its beginning.
func TestBegunAheadOfItsTime(t *testing.T) {
	h := changedHouse(t, lives(t, six(t, impl.PlanBoth, 90), "tick*3|"+over(0)+"|"+over(0)), func(h *impl.House) {
		h.Serv.Runs[1].Name = "p6"
		h.Serv.Runs = []impl.ServRun{h.Serv.Runs[0], h.Serv.Runs[1], h.Serv.Runs[2], h.Serv.Runs[3]}
		h.Past = append(h.Past, impl.HousePast{Name: "p10", Stands: 2, Result: 3})
	})
	if runsOf(h) != "cc p6 r s" || impl.HouseSafe(h) {
		t.Fatal(impl.HouseBoard(h))
	}
	h = lives(t, h, "tick*8|look")
	boardHas(t, h, "plan p|last 11, next 14|goes 2 6 10|waits|2 began|6 began|10 began|past aa done 1|past bb done 1|past p10 failed 3")
	if runsOf(h) != "cc p2 p6 r s" || !impl.HouseSafe(h) {
		t.Error(impl.HouseBoard(h))
	}
	h = lives(t, h, "look")
	boardHas(t, h, "plan p|last 11, next 14|goes 2 6|waits|2 began|6 began|10 began|10 ended|past aa done 1|past bb done 1|past p10 failed 3")
}

// A look at a tick at which a look was had, and one with nothing due.
func TestLookAgain(t *testing.T) {
	for _, policy := range policies {
		h := lives(t, jobs(t, policy, 90), "tick|look")
		boardHas(t, h, "now 1|shard -1 term 0 until 0|plan p|last 1, next 2|goes|waits")
		if x := lives(t, h, "look|look"); !sameHouse(x, h) {
			t.Errorf("policy %d: %s", policy, impl.HouseBoard(x))
		}
		h = lives(t, h, "tick*10|look")
		if x := lives(t, h, "look|look"); !sameHouse(x, h) {
			t.Errorf("policy %d: %s", policy, impl.HouseBoard(x))
		}
		// With nothing due any more.
		h = changedHouse(t, h, func(h *impl.House) { h.Serv.Now = 100000 })
		h = lives(t, h, "tick=4|look")
		if x := lives(t, h, "look|look"); !sameHouse(x, h) || x.Plans[0].Plan.Last != 100000 {
			t.Errorf("policy %d: %s", policy, impl.HouseBoard(x))
		}
	}
	// Of a house without plans.
	h := lives(t, housed(t, flowsOf(t, jobFlow), 1, 1), "begin x 0 1|tick")
	if x := lives(t, h, "look"); !sameHouse(x, h) {
		t.Error(impl.HouseBoard(x))
	}
}

// A run that is put away between others moves the places of those behind it, in the workers' hands, too.
func TestKeptBetweenOthers(t *testing.T) {
	h := housed(t, flowsOf(t, jobFlow, "workflow tiny|return 1"), 1, 2, housePlan("p", 1, nil, impl.PlanSkip, 90, rule(4, 2, 0, 20)))
	h = lives(t, h, "begin a 0 1|begin z 0 2|begin k 1|tick*3|look|lease 0 0")
	if runsOf(h) != "a k p2 z" {
		t.Fatal(runsOf(h))
	}
	h = lives(t, h, "take 0 1|take 0 3|take 0 1|take 0 0|take 0 2|write 0")
	h = lives(t, h, "tick*5|lease 1 0|take 1 2|take 1 3|take 1 2|take 1 0")
	hands := func(h impl.House) string {
		text := ""
		for _, k := range h.Serv.Workers {
			for _, task := range k.Tasks {
				text += " " + h.Serv.Runs[task.Run].Name
			}
			text += ";"
		}
		return text
	}
	if got := hands(h); got != " z k a p2; p2 z p2 a;" {
		t.Fatal(got)
	}
	h = lives(t, h, "keep 0=6|keep 2=6|keep 3=6|keep 1")
	if got := hands(h); got != " z a p2; p2 z p2 a;" || runsOf(h) != "a p2 z" {
		t.Errorf("%s: %s", runsOf(h), got)
	}
	// What was in hands is written to the run of which it is.
	h = lives(t, h, "write 1|look|keep 1")
	if got := hands(h); got != " z a; z a;" || runsOf(h) != "a z" {
		t.Errorf("%s: %s", runsOf(h), got)
	}
	h = lives(t, h, "write 0=8|write 1|write 1")
	if len(h.Serv.Runs[0].Hist) != 2 || len(h.Serv.Runs[1].Hist) != 2 || h.Serv.Runs[1].Hist[0].Nums[0] != 2 {
		t.Errorf("%+v", h.Serv.Runs)
	}
	boardHas(t, h, "goes|waits|2 began|6 skipped|2 ended|past k done 1|past p2 done 1")
	// The first and the last one go, too.
	h = lives(t, h, "cancel 0|take 1 0|take 1 1=6|cancel 1|take 1 1|write 1|keep 0")
	if got := hands(h); got != "; z;" || runsOf(h) != "z" {
		t.Errorf("%s: %s", runsOf(h), got)
	}
	h = lives(t, h, "write 1|keep 0")
	if runsOf(h) != "" || hands(h) != ";;" || fmt.Sprint(h.Past) != "[{a 4 -9003} {k 1 1} {p2 1 1} {z 4 -9003}]" {
		t.Errorf("%s: %s, %v", runsOf(h), hands(h), h.Past)
	}
	lives(t, h, "keep 0=5|keep -1=5|look|begin a 0 1=3|begin z 0 1=3|begin b 0 1")
}

// What a run that was put away did in the world stays, and it counts no more among the runs.
func TestKeptStandsAsItStood(t *testing.T) {
	flows := flowsOf(t, "workflow w n|do a x n|if n less 0|fail n|end|if n less 3|next|end|get b go|return b")
	h := lives(t, housed(t, flows, 2, 1), "begin a 0 -4|begin b 0 1|begin c 0 9|begin d 0 9|signal 3 1 go 7|cancel 2|keep 0=6")
	h = rests(t, h, 1)
	h = rests(t, h, 6)
	if fmt.Sprint(h.Past) != "[{a 2 -4} {b 3 0} {c 4 -9003} {d 1 7}]" || len(h.Serv.Effects) != 3 || len(h.Serv.Tokens) != 1 {
		t.Error(impl.HouseBoard(h))
	}
	boardHas(t, h, "past a failed -4|past b anew 0|past c stopped -9003|past d done 7")
	lives(t, h, "begin a 0 1=3|signal 0 1 go 7|signal 0 2 go 7=5|begin e 0 9")
}

// What a person begins is called by letters alone.
func TestPersonsBegin(t *testing.T) {
	h := six(t, impl.PlanSkip, 90)
	begin := func(name string, flow int, nums ...int) impl.HouseEvent { return evServe(evBegin(name, flow, nums...)) }
	// There is no room; that is asked last.
	for _, c := range []struct {
		e    impl.HouseEvent
		code int
	}{
		{begin("k", 1), 4},
		{begin("abcdefgh", 1), 4},
		{begin("abcdefghi", 1), 2},
		{begin("", 1), 3},
		{begin("k1", 1), 3},
		{begin("1", 1), 3},
		{begin("p2", 1), 3},
		{begin("p3", 1), 3},
		{begin("K", 1), 3},
		{begin("k ", 1), 3},
		{begin(" ", 1), 3},
		{begin("k\x00", 1), 3},
		{begin("k`", 1), 3},
		{begin("k{", 1), 3},
		{begin("é", 1), 3},
		{begin("\xff", 1), 3},
		{begin("abcdefgh1", 1), 3},
		{begin("q", 1), 3},
		{begin("p", 1), 4},
		// Behind that all is as with the service.
		{begin("k", 2), 2},
		{begin("k", -1), 2},
		{begin("k", 1, 1), 2},
		{begin("k", 0), 2},
		{begin("k", 0, 10000), 2},
		{begin("q", 0), 2},
		{begin("k1", 9, 1, 2, 3), 3},
		{begin("", -1), 3},
	} {
		happens(t, h, c.e, c.code)
	}
	h = lives(t, h, over(0)+"|"+over(2))
	for _, c := range []struct {
		e    impl.HouseEvent
		code int
	}{
		{begin("aa", 1), 3},
		{begin("aa", 9), 3},
		{begin("q", 1), 3},
		{begin("k", 1), 0},
		{begin("p", 1), 0},
		{begin("zzzzzzzz", 1), 0},
		{begin("a", 1), 0},
		{begin("aaa", 1), 0},
	} {
		happens(t, h, c.e, c.code)
	}
	// Of other kinds the name may be any.
	h = happens(t, h, evServe(impl.ServEvent{Kind: impl.ServTicks, Name: "p2"}), 0)
	h = happens(t, h, evServe(impl.ServEvent{Kind: impl.ServSignals, Name: "go1", Nums: []int{1}, Run: 0, Id: 5}), 0)
	happens(t, h, evServe(impl.ServEvent{Kind: impl.ServSignals, Name: "", Nums: []int{1}, Run: 0, Id: 6}), 2)
	for b := range 256 {
		name := "k" + string([]byte{byte(b)})
		code := 3
		if b >= 'a' && b <= 'z' {
			code = 0
		}
		happens(t, h, begin(name, 1), code)
	}
}

// Each code that a house has, the first first.
func TestHouseCodes(t *testing.T) {
	h := fullHouse(t)
	for _, kind := range []int{0, 4, -1, math.MinInt, math.MaxInt} {
		happens(t, h, impl.HouseEvent{Kind: kind, Serv: evTick(), Run: 9}, 2)
	}
	for _, e := range []impl.ServEvent{{}, {Kind: 13}, {Kind: -1, Name: "p2"}} {
		happens(t, h, evServe(e), 2)
	}
	for _, run := range []int{6, 7, -1, math.MinInt, math.MaxInt} {
		happens(t, h, evKeep(run), 5)
	}
	// Codes of a service: each comes through.
	lives(t, h, "signal 0 1 Go 1=2|begin k 0 1=4|begin k 9=2|begin man 1=3|cancel 6=5|cancel 4=4|lease 1 0=7|lease 0 2=5|fall 2=5|fire 1 9=7|write 1=6|take 1 0=7|try 0 9=5|rise 1")
	happens(t, h, evServe(evDeploy(1, flow(t, jobFlow))), 2)
	happens(t, h, evServe(evDeploy(0, flow(t, "workflow job n|do a other n|return a"))), 9)
	happens(t, h, evServe(evDeploy(2, flow(t, jobFlow))), 5)
	// Code 8: the task is out of the worker's hands.
	fenced := lives(t, h, "tick*5|lease 1 0|lease 1 1|write 0=8|write 0=8|write 0=8|write 0=6")
	if len(fenced.Serv.Workers[0].Tasks) != 0 || fmt.Sprint(fenced.Serv.Runs) != fmt.Sprint(h.Serv.Runs) || fmt.Sprint(fenced.Plans, fenced.Owes, fenced.Past) != fmt.Sprint(h.Plans, h.Owes, h.Past) {
		t.Error(impl.HouseBoard(fenced))
	}
	// What is put away: there is such a run; it is closed, and nobody minds it; there is room.
	h = lives(t, h, "write 0|write 0|write 0")
	if !h.Serv.Runs[5].Closed || h.Serv.Runs[4].Closed {
		t.Fatal(impl.HouseBoard(h))
	}
	lives(t, h, "keep 5=6|keep 4=6|look|keep 5")
	full := func(h *impl.House) {
		for i := len(h.Past); i < 60; i++ {
			h.Past = append(h.Past, impl.HousePast{Name: fmt.Sprintf("zzz%d", 100+i), Stands: 1})
		}
	}
	x := changedHouse(t, h, full)
	lives(t, x, "keep 6=5|keep 5=6|keep 4=6|look|keep 5=4|keep 4=6|keep -1=5")
	x = changedHouse(t, h, func(h *impl.House) {
		full(h)
		h.Past = h.Past[:59]
	})
	x = lives(t, x, "look|keep 5|keep 5=5|keep 0=6")
	if len(x.Past) != 60 {
		t.Errorf("%d", len(x.Past))
	}
	// With no room among what is past runs stay where they are.
	x = rests(t, x, 9)
	if len(x.Past) != 60 || len(x.Serv.Runs) != 6 || !impl.HouseSafe(x) {
		t.Error(impl.HouseBoard(x))
	}
}

// A run that is of a time by its name alone, or of a time that does not go on any more, is nobody's.
func TestKeptOfNoTime(t *testing.T) {
	h := six(t, impl.PlanSkip, 90)
	h = lives(t, h, "take 0 3|write 0|tick*4|look")
	for name, code := range map[string]int{"p2": 6, "p6": 0, "p3": 0, "p02": 0, "p": 0, "o2": 0, "pp2": 0} {
		x := changedHouse(t, h, func(h *impl.House) {
			h.Owes = nil
			h.Serv.Runs = h.Serv.Runs[3:4]
			h.Serv.Runs[0].Name = name
		})
		happens(t, x, evKeep(0), code)
	}
}

func TestHouseSafe(t *testing.T) {
	h := fullHouse(t)
	h = lives(t, h, "begin k 0 1=4|try 2 1=0|write 0|keep 0=6")
	for _, c := range []struct {
		what string
		safe bool
		make func(h *impl.House)
	}{
		{"as it is", true, func(h *impl.House) {}},
		{"a service that is not safe", false, func(h *impl.House) { h.Serv.Effects[0].Answer++ }},
		{"a term with two", false, func(h *impl.House) { h.Serv.Workers[1].Terms[0] = 1 }},
		{"what goes on is not owed its beginning", false, func(h *impl.House) { h.Owes = h.Owes[1:] }},
		{"the last that goes on is not owed its beginning", false, func(h *impl.House) { h.Owes = h.Owes[:3] }},
		{"a cancelling is not owed", true, func(h *impl.House) { h.Owes = slices.Delete(h.Owes, 2, 3) }},
		{"a cancelling of what goes on", true, func(h *impl.House) { h.Owes = append(h.Owes, impl.HouseOwe{Tick: 2, Cancel: true}) }},
		{"what goes on is past", true, func(h *impl.House) {
			h.Owes, h.Past[0].Name = h.Owes[:3], "b10"
		}},
		{"what does not go on", true, func(h *impl.House) { h.Plans[2].Plan.Goes, h.Plans[2].Plan.Waits = nil, nil }},
		{"a person's run", true, func(h *impl.House) { h.Serv.Runs[5].Name, h.Plans[2].Plan.Goes[0] = "zzz", 3 }},
		{"the run of what goes on is a person's", false, func(h *impl.House) { h.Serv.Runs[5].Name = "zzz" }},
		{"a run at a tick that is not due", false, func(h *impl.House) { h.Serv.Runs[5].Name, h.Plans[2].Plan.Goes[0] = "zz8", 3 }},
		{"a run of no plan", false, func(h *impl.House) { h.Serv.Runs[5].Name, h.Plans[2].Plan.Goes[0] = "zzz7", 3 }},
		{"a run with a needless zero", false, func(h *impl.House) { h.Serv.Runs[5].Name, h.Plans[2].Plan.Goes[0] = "zz07", 3 }},
		{"a run of a time that waits", false, func(h *impl.House) { h.Serv.Runs[5].Name, h.Plans[2].Plan.Goes[0] = "zz11", 3 }},
		{"a run of a time that waited", true, func(h *impl.House) {
			h.Serv.Runs[5].Name, h.Plans[2].Plan.Goes[0], h.Plans[2].Plan.Waits = "zz11", 3, nil
		}},
		{"a run of a time to come", false, func(h *impl.House) { h.Serv.Runs[5].Name, h.Plans[2].Plan.Goes[0] = "zz15", 3 }},
		{"a run of the time at which it was looked at last", true, func(h *impl.House) {
			h.Plans[2].Plan.Waits, h.Plans[2].Plan.Last, h.Plans[2].Plan.Told = nil, 7, nil
		}},
		{"what is past may be of a time to come", true, func(h *impl.House) { h.Past[2].Name = "zz15" }},
		{"no plans", false, func(h *impl.House) { h.Plans, h.Owes = nil, nil }},
		{"no plans, and persons' runs", true, func(h *impl.House) {
			h.Plans, h.Owes = nil, nil
			for i := range h.Serv.Runs {
				h.Serv.Runs[i].Name = string(rune('a' + i))
				h.Serv.Runs[i].Hist, h.Serv.Runs[i].Tries, h.Serv.Runs[i].Dues, h.Serv.Runs[i].Closed = nil, nil, nil, false
			}
		}},
	} {
		x := changedHouse(t, h, func(h *impl.House) {
			h.Plans[2].Plan.Told = nil
			c.make(h)
		})
		if impl.HouseSafe(x) != c.safe || houseSafeBy(x) != c.safe {
			t.Errorf("%s: safe is not %v, %v by hand\n%s", c.what, c.safe, houseSafeBy(x), impl.HouseBoard(x))
		}
	}
}

func TestHouseCalmRounds(t *testing.T) {
	h := fullHouse(t)
	for _, rounds := range []int{0, -1, math.MinInt} {
		if x := impl.HouseCalm(h, rounds); !sameHouse(x, h) {
			t.Errorf("%d rounds: %s", rounds, impl.HouseBoard(x))
		}
	}
	most := impl.HouseCalm(h, 200)
	for _, rounds := range []int{201, 1000, math.MaxInt} {
		if x := impl.HouseCalm(h, rounds); !sameHouse(x, most) {
			t.Errorf("%d rounds: %s", rounds, impl.HouseBoard(x))
		}
	}
	if most.Serv.Now != h.Serv.Now+200 || impl.HouseCalm(h, 199).Serv.Now != h.Serv.Now+199 {
		t.Errorf("now %d", most.Serv.Now)
	}
	for _, rounds := range []int{1, 2, 3, 40} {
		if x := rests(t, h, rounds); !impl.HouseSafe(x) {
			t.Errorf("%d rounds: %s", rounds, impl.HouseBoard(x))
		}
	}
	if len(most.Serv.Runs) != 0 || len(most.Owes) != 0 || !impl.HouseSafe(most) {
		t.Error(impl.HouseBoard(most))
	}
	// When time has come to its end all else goes on; what is far in the past is missed.
	late := changedHouse(t, h, func(h *impl.House) { h.Serv.Now = 99999 })
	late = rests(t, late, 5)
	if late.Serv.Now != 100000 || late.Plans[0].Plan.Last != 100000 || len(late.Past) < 5 {
		t.Error(impl.HouseBoard(late))
	}
	// With nobody up times come, and runs begin, and wait.
	down := lives(t, jobs(t, impl.PlanBoth, 90), "fall 0")
	down = rests(t, down, 30)
	if runsOf(down) != "p10 p14 p18 p2 p6" || len(down.Past) != 0 || !impl.HouseSafe(down) {
		t.Error(impl.HouseBoard(down))
	}
	down = rests(t, lives(t, down, "rise 0"), 10)
	if runsOf(down) != "" || len(down.Past) != 5 {
		t.Error(impl.HouseBoard(down))
	}
}

// Runs that are over by one round are put away by it, the last first, as long as there is room.
func TestHouseCalmKeeps(t *testing.T) {
	h := housed(t, flowsOf(t, "workflow tiny|return 1"), 1, 1)
	h = lives(t, h, "begin a 0|begin b 0|begin c 0|begin d 0")
	if x := rests(t, h, 1); fmt.Sprint(x.Past) != "[{a 1 1} {b 1 1} {c 1 1} {d 1 1}]" || len(x.Serv.Runs) != 0 {
		t.Error(impl.HouseBoard(x))
	}
	h = changedHouse(t, h, func(h *impl.House) {
		for i := range 58 {
			h.Past = append(h.Past, impl.HousePast{Name: fmt.Sprintf("k%d", 100+i), Stands: 1})
		}
	})
	if x := rests(t, h, 3); runsOf(x) != "a b" || len(x.Past) != 60 || x.Past[0].Name != "c" {
		t.Error(impl.HouseBoard(x))
	}
}

func TestHouseBoards(t *testing.T) {
	h := fullHouse(t)
	houseBoards(t, h, strings.Join([]string{
		"now 11|shard 0 term 1 until 11|shard 0 term 1 until 11",
		"a2/0 live 0, 4 written, 0 waiting|a4/0 live 0, 4 written, 0 waiting|a6/0 live 0, 2 written, 1 waiting|b4/0 live 0, 4 written, 1 waiting|b7/0 live 0, 0 written, 30 waiting|zz7/0 live 0, 0 written, 0 waiting",
		"a2/0/0 -1, tried 1|a4/0/0 -1, tried 1|a6/0/0 -1, tried 1|b1/0/0 0, tried 1|b1/0/0- -2, tried 1|b4/0/0 0, tried 1",
		"plan a|last 11, next 12|goes 2 4 6 8 10|waits|2 began|4 began|6 began|8 began|10 began",
		"plan b|last 11, next 13|goes 10|waits|1 began|1 stopped|4 began|4 stopped|7 began|7 stopped|10 began",
		"plan zz|last 11, next 15|goes 7|waits 11|3 began|3 ended|7 began",
		"owes begins a8|owes begins a10|owes cancels b7|owes begins b10",
		"past b1 stopped -9003|past man done 1|past zz3 done 1",
	}, "|"))
	houseBoards(t, housed(t, flowsOf(t, jobFlow), 2, 1), "now 0|shard -1 term 0 until 0|shard -1 term 0 until 0")
	x := changedHouse(t, h, func(h *impl.House) {
		h.Past = nil
		for i, result := range []int{0, -1, 9999, -9999} {
			h.Past = append(h.Past, impl.HousePast{Name: []string{"k", "l", "m", "n"}[i], Stands: 1 + i, Result: result})
		}
	})
	boardHas(t, x, "owes begins b10|past k done 0|past l failed -1|past m anew 9999|past n stopped -9999")
}

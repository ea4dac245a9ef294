package tests

import (
	"slices"
	"strings"
	"testing"

	"loop.example/dunlin/impl"
)

// faultAt is a history, and what is wrong with it.
type faultAt struct {
	list string
	at   int
	code int
}

func allFaulty(t *testing.T, text string, list []faultAt) {
	t.Helper()
	lines := flow(t, text)
	for _, c := range list {
		if c.code == 0 {
			s, _ := replayBy(lines, hist(t, c.list))
			replays(t, lines, hist(t, c.list), s)
			continue
		}
		faulty(t, lines, hist(t, c.list), c.at, c.code)
	}
}

func TestReplayedExample(t *testing.T) {
	lines := flow(t, payFlow)
	list := hist(t, payHist)
	s := begun(t, lines, 3)
	replays(t, lines, list[:2], s)
	s = came(t, lines, s, done(1, 4))
	replays(t, lines, list[:5], s)
	s = came(t, lines, s, fired(2))
	replays(t, lines, list, s)
	boards(t, lines, s, "done 4|a 4|n 3")
	if !slices.Equal(s.Marks, vars("fast 1")) {
		t.Errorf("%+v", s)
	}
}

func TestEachFaultAtItsPlace(t *testing.T) {
	allFaulty(t, payFlow, []faultAt{
		{payHist, 0, 0},
		{"", 0, impl.HistBad},
		// No beginning, or another one.
		{"ask 1 0 pay 3|done 1 4", 0, impl.HistBad},
		{"cancel", 0, impl.HistBad},
		{"start 3|ask 1 0 pay 3|start 3", 2, impl.HistBad},
		{"start 3|start 3|ask 1 0 pay 3", 1, impl.HistBad},
		{"start 3|ask 1 0 pay 3|start", 2, impl.HistBad},
		{payHist + "|start 3", 7, impl.HistBad},
		// What may not come.
		{"start", 0, impl.HistNever},
		{"start 3 4|ask 1 0 pay 3", 0, impl.HistNever},
		{"start 3|ask 1 0 pay 3|done 2 4", 2, impl.HistNever},
		{"start 3|ask 1 0 pay 3|fired 1", 2, impl.HistNever},
		{"start 3|ask 1 0 pay 3|broke 2 1", 2, impl.HistNever},
		{"start 3|ask 1 0 pay 3|done 1 4|mark fast|ask 2 1 - 1|done 2 4", 5, impl.HistNever},
		{"start 3|ask 1 0 pay 3|done 1 4|mark fast|ask 2 1 - 1|done 1 4", 5, impl.HistNever},
		{payHist + "|cancel", 7, impl.HistNever},
		{payHist + "|signal x 1", 7, impl.HistNever},
		{payHist + "|fired 2", 7, impl.HistNever},
		// What is unlike: the name, the key, the Id, the numbers, the kind.
		{"start 3|ask 1 0 mail 3", 1, impl.HistUnlike},
		{"start 3|ask 1 0 - 3", 1, impl.HistUnlike},
		{"start 3|ask 1 1 pay 3", 1, impl.HistUnlike},
		{"start 3|ask 2 0 pay 3", 1, impl.HistUnlike},
		{"start 3|ask 1 0 pay 4", 1, impl.HistUnlike},
		{"start 3|ask 1 0 pay 3 3", 1, impl.HistUnlike},
		{"start 3|ask 1 0 pay", 1, impl.HistUnlike},
		{"start 4|ask 1 0 pay 3", 1, impl.HistUnlike},
		{"start 3|mark fast", 1, impl.HistUnlike},
		{"start 3|end 1 4", 1, impl.HistUnlike},
		{"start 3|ask 1 0 pay 3|done 1 4|mark fast|ask 2 1 - 1|fired 2|end 1 5", 6, impl.HistUnlike},
		{"start 3|ask 1 0 pay 3|done 1 4|mark fast|ask 2 1 - 1|fired 2|end 2 4", 6, impl.HistUnlike},
		{"start 3|ask 1 0 pay 3|done 1 4|mark fast|ask 2 1 - 1|fired 2|end 1 4 0", 6, impl.HistUnlike},
		// More than the run says.
		{"start 3|ask 1 0 pay 3|ask 1 0 pay 3", 2, impl.HistUnlike},
		{"start 3|ask 1 0 pay 3|end 1 3|done 1 4", 2, impl.HistUnlike},
		{"start 3|ask 1 0 pay 3|signal x 1|ask 1 0 pay 3", 3, impl.HistUnlike},
		{payHist + "|end 1 4", 7, impl.HistUnlike},
		{payHist + "|mark fast", 7, impl.HistUnlike},
		// Less than it says: ahead of what comes next, and at the end.
		{"start 3", 1, impl.HistMissing},
		{"start 3|done 1 4|mark fast|ask 2 1 - 1", 1, impl.HistMissing},
		{"start 3|ask 1 0 pay 3|done 1 4", 3, impl.HistMissing},
		{"start 3|ask 1 0 pay 3|done 1 4|fired 2|end 1 4", 3, impl.HistMissing},
		{"start 3|ask 1 0 pay 3|done 1 4|mark fast", 4, impl.HistMissing},
		{"start 3|ask 1 0 pay 3|done 1 4|mark fast|fired 2|end 1 4", 4, impl.HistMissing},
		{"start 3|ask 1 0 pay 3|done 1 4|mark fast|ask 2 1 - 1|fired 2", 6, impl.HistMissing},
		{"start 3|ask 1 0 pay 3|cancel", 3, impl.HistMissing},
		// A history may end right behind what came, if nothing is said then.
		{"start 3|ask 1 0 pay 3|signal x 1", 0, 0},
		{"start 3|ask 1 0 pay 3|signal x 1|signal x 1", 0, 0},
	})
	allFaulty(t, "workflow w|get a go|return a", []faultAt{{"start", 0, 0}, {"start|signal go 2", 2, impl.HistMissing}, {"start|signal go 2|end 1 2", 0, 0}, {"start|ask 1 0 - 1", 1, impl.HistUnlike}})
	allFaulty(t, "workflow w|next 1 2 3", []faultAt{{"start|end 3 0 1 2 3", 0, 0}, {"start|end 3 0 1 2", 1, impl.HistUnlike}, {"start|end 3 0", 1, impl.HistUnlike}, {"start|end 3 1 1 2 3", 1, impl.HistUnlike}, {"start", 1, impl.HistMissing}})
}

// What stands in order counts, not only what stands there.
func TestEntriesInAnotherOrder(t *testing.T) {
	allFaulty(t, "workflow w|both|do a x|and|do b y|end|patch q|end|patch p|end|patch r|sleep 1|end|return a", []faultAt{
		{"start|ask 1 0.0 x|ask 2 1.0 y|done 2 5|done 1 6|mark p|mark q|mark r|ask 3 1 - 1|fired 3|end 1 6", 0, 0},
		{"start|ask 2 1.0 y|ask 1 0.0 x|done 2 5", 1, impl.HistUnlike},
		{"start|ask 1 0.0 x|done 1 6|ask 2 1.0 y", 2, impl.HistMissing},
		{"start|ask 1 0.0 x|ask 2 1.0 y|done 2 5|done 1 6|mark q|mark p|mark r|ask 3 1 - 1", 5, impl.HistUnlike},
		{"start|ask 1 0.0 x|ask 2 1.0 y|done 2 5|done 1 6|mark p|mark r|mark q|ask 3 1 - 1", 6, impl.HistUnlike},
		{"start|ask 1 0.0 x|ask 2 1.0 y|done 2 5|done 1 6|mark p|mark q|ask 3 1 - 1|mark r", 7, impl.HistUnlike},
		{"start|ask 1 0.0 x|ask 2 1.0 y|done 2 5|mark p|mark q|mark r|done 1 6|ask 3 1 - 1", 4, impl.HistUnlike},
	})
}

// The marks behind what came, up to what came next, say which patches are there; the others are not.
func TestMarksOfReplay(t *testing.T) {
	text := "workflow w|let r is 0|patch p|let r add r 1|end|sleep 1|patch p|let r add r 10|end|patch q|let r add r 100|end|patch s|sleep r|end|return r"
	lines := flow(t, text)
	for _, c := range []struct {
		list  string
		marks string
	}{
		{"start|ask 1 0 - 1", "p 0"},
		{"start|mark p|ask 1 0 - 1", "p 1"},
		{"start|mark p|ask 1 0 - 1|fired 1|end 1 11", "p 1|q 0|s 0"},
		{"start|ask 1 0 - 1|fired 1|end 1 0", "p 0|q 0|s 0"},
		{"start|ask 1 0 - 1|fired 1|mark q|end 1 100", "p 0|q 1|s 0"},
		{"start|mark p|ask 1 0 - 1|fired 1|mark q|end 1 111", "p 1|q 1|s 0"},
		{"start|mark p|ask 1 0 - 1|fired 1|mark s|ask 2 1 - 11", "p 1|q 0|s 1"},
		{"start|mark p|ask 1 0 - 1|fired 1|mark q|mark s|ask 2 1 - 111|fired 2|end 1 111", "p 1|q 1|s 1"},
		{"start|mark p|ask 1 0 - 1|signal x 1|fired 1|mark q|mark s|ask 2 1 - 111", "p 1|q 1|s 1"},
	} {
		s, f := impl.HistReplay(lines, hist(t, c.list))
		byHand, _ := replayBy(lines, hist(t, c.list))
		if f.Code != 0 || !slices.Equal(s.Marks, vars(strings.Split(c.marks, "|")...)) || shape(s) != shape(byHand) {
			t.Errorf("%s: %+v, %+v", c.list, f, s)
		}
	}
	allFaulty(t, text, []faultAt{
		// Of a patch that was passed already, there or not.
		{"start|mark p|ask 1 0 - 1|fired 1|mark p|end 1 11", 4, impl.HistUnlike},
		{"start|ask 1 0 - 1|fired 1|mark p|end 1 0", 3, impl.HistUnlike},
		// Of one that comes later, or never, or twice.
		{"start|mark p|mark q|ask 1 0 - 1", 2, impl.HistUnlike},
		{"start|mark q|ask 1 0 - 1", 1, impl.HistUnlike},
		{"start|mark x|ask 1 0 - 1", 1, impl.HistUnlike},
		{"start|mark p|mark x|ask 1 0 - 1", 2, impl.HistUnlike},
		{"start|mark a|mark p|ask 1 0 - 1", 1, impl.HistUnlike},
		{"start|mark p|mark p|ask 1 0 - 1", 2, impl.HistUnlike},
		{"start|mark p|ask 1 0 - 1|signal x 1|mark q|fired 1|end 1 11", 4, impl.HistUnlike},
		// Behind what came last they count, even where they stand too late.
		{"start|ask 1 0 - 1|mark p", 1, impl.HistUnlike},
		{"start|mark p|ask 1 0 - 1|fired 1|end 1 111|mark q", 4, impl.HistUnlike},
		{"start|mark p|ask 1 0 - 1|fired 1|end 1 11|mark q", 4, impl.HistUnlike},
		{"start|mark p|ask 1 0 - 1|fired 1|mark q|ask 2 1 - 111|mark s", 5, impl.HistUnlike},
		{"start|mark p|ask 1 0 - 1|fired 1|mark q|mark s", 6, impl.HistMissing},
		{"start|mark p|ask 1 0 - 1|fired 1|mark q", 5, impl.HistMissing},
		{"start|mark p", 2, impl.HistMissing},
		{"start|mark q", 1, impl.HistUnlike},
		// Those of what came ahead do not count again.
		{"start|mark p|ask 1 0 - 1|fired 1|mark q|mark s|ask 2 1 - 111|fired 2|mark q|end 1 111", 8, impl.HistUnlike},
		// The run goes another way by what is marked, and it shows behind that.
		{"start|mark p|ask 1 0 - 1|fired 1|mark q|end 1 11", 5, impl.HistUnlike},
		{"start|ask 1 0 - 1|fired 1|mark q|end 1 111", 4, impl.HistUnlike},
	})
}

func TestTwoFaultsAtOnce(t *testing.T) {
	lines := flow(t, payFlow)
	bad := impl.HistEntry{Kind: 99}
	with := func(list string, places ...int) []impl.HistEntry {
		all := hist(t, list)
		for _, place := range places {
			all = slices.Insert(all, place, bad)
		}
		return all
	}
	for _, c := range []struct {
		list []impl.HistEntry
		at   int
		code int
	}{
		// HistBad of any entry is ahead of all others; of several the first.
		{with("start 3|ask 1 0 mail 3|done 7 1", 3), 3, impl.HistBad},
		{with("start|ask 1 0 mail 3", 2), 2, impl.HistBad},
		{with("start 3", 1), 1, impl.HistBad},
		{with("start 3|ask 1 0 mail 3|start 3"), 2, impl.HistBad},
		{with("start 3|start 3|ask 1 0 pay 3", 3), 1, impl.HistBad},
		{with("start 3|ask 1 0 pay 3|start 3", 1), 1, impl.HistBad},
		{with("cancel|ask 1 0 pay 3", 1), 0, impl.HistBad},
		{with("ask 1 0 pay 3|start 3"), 0, impl.HistBad},
		{with(payHist, 2, 5), 2, impl.HistBad},
		// What may not come, and what is unlike behind it.
		{hist(t, "start 3 3|ask 1 0 mail 3"), 0, impl.HistNever},
		{hist(t, "start 3|ask 1 0 pay 3|done 7 1|ask 9 9 x"), 2, impl.HistNever},
		{hist(t, "start 3|ask 1 0 pay 3|done 7 1|fired 8"), 2, impl.HistNever},
		// What is unlike, and what may not come, or is unlike, behind it.
		{hist(t, "start 3|ask 1 0 mail 3|done 7 1"), 1, impl.HistUnlike},
		{hist(t, "start 3|ask 1 0 mail 3|ask 1 0 mail 3"), 1, impl.HistUnlike},
		// What is unlike, and missing.
		{hist(t, "start 3|ask 1 0 pay 3|done 1 4|mark slow|fired 2"), 3, impl.HistUnlike},
		{hist(t, "start 3|ask 1 0 pay 3|done 1 4|mark fast|end 1 4"), 4, impl.HistUnlike},
		// What is missing is at the place of what may not come next; there it was first.
		{hist(t, "start 3|done 7 1"), 1, impl.HistMissing},
		{hist(t, "start 3|fired 1"), 1, impl.HistMissing},
		{hist(t, "start 3|ask 1 0 pay 3|done 1 4|mark fast|done 1 4"), 4, impl.HistMissing},
		{hist(t, "start 3|ask 1 0 pay 3|cancel|cancel"), 3, impl.HistMissing},
	} {
		faulty(t, lines, c.list, c.at, c.code)
	}
	// A workflow with a fault: nothing begins.
	wrong := linesOf(t, "workflow w n\ndo a pay n")
	for _, lines := range [][]impl.FlowLine{wrong, nil, {{Kind: 77}}} {
		faulty(t, lines, hist(t, payHist), 0, impl.HistNever)
		faulty(t, lines, hist(t, "start 3"), 0, impl.HistNever)
		faulty(t, lines, hist(t, "start 3|ask 1 0 mail 3"), 0, impl.HistNever)
		faulty(t, lines, with("start 3", 1), 1, impl.HistBad)
		faulty(t, lines, nil, 0, impl.HistBad)
	}
}

func TestReplayAtItsLimit(t *testing.T) {
	lines, list := endingHist(t, 400)
	replays(t, lines, list, came(t, lines, begun(t, lines), done(1, 5), done(2, 6), cancel()))
	lines, list = endingHist(t, 401)
	faulty(t, lines, list, 0, impl.HistBad)
	// That there are too many is told, if all are ok, ahead of what is unlike.
	list[1].Name = "mail"
	faulty(t, lines, list, 0, impl.HistBad)
	list[400].Id = 1
	faulty(t, lines, list, 400, impl.HistBad)
	list[400] = entryBy(t, "start")
	faulty(t, lines, list, 400, impl.HistBad)
	faulty(t, lines, list[1:], 0, impl.HistBad)
	lines, list = endingHist(t, 1000)
	faulty(t, lines, list, 0, impl.HistBad)
	list[999].Key = "1"
	faulty(t, lines, list, 999, impl.HistBad)
	// At the limit what is missing is behind all.
	lines, list = endingHist(t, 399)
	faulty(t, lines, append(list, entryBy(t, "done 4 1")), 400, impl.HistMissing)
	faulty(t, lines, append(list, entryBy(t, "done 3 1")), 399, impl.HistNever)
	faulty(t, lines, append(list, entryBy(t, "end 4 -9003")), 399, impl.HistUnlike)
}

// The Ids of a history go up to RunMaxId, if signals come for so long; more than HistMaxLen entries are told, not replayed.
func TestHistoriesOfManyIds(t *testing.T) {
	lines := flow(t, "workflow w|let i is 0|while i less 9999|get a go for 5|let i add i 1|end|return i")
	list := impl.HistOf(lines, nil, manyVars(10000), nil, 0)
	if last := len(list) - 1; rowBy(list[last]) != "end 1 9999" || rowBy(list[last-1]) != "signal go 1" || rowBy(list[last-2]) != "ask 9999 9998 - 5" {
		t.Errorf("%s", rowsBy(list[len(list)-3:]))
	}
	faulty(t, lines, list, 0, impl.HistBad)
	if s, f := impl.HistReplay(lines, list[:400]); f.Code != 0 || s.Next != 201 {
		t.Errorf("%+v, %+v", f, s)
	}
	lines = flow(t, "workflow w|let i is 0|while i less 9999|get a go for 5|let i add i 1|end|sleep 1|return i")
	list = impl.HistOf(lines, nil, manyVars(10000), nil, 0)
	if rowBy(list[len(list)-1]) != "end 2 -9002" {
		t.Errorf("%s", rowsBy(list[len(list)-3:]))
	}
}

// Another workflow does what a history says up to where they part ways.
func TestWhereTheyPartWays(t *testing.T) {
	list := hist(t, payHist)
	for _, c := range []struct {
		text string
		at   int
		code int
	}{
		{"workflow v n|do a pay n|patch fast|sleep 1|end|return a", 0, 0},
		{"workflow w m|do b pay m|patch fast|sleep 1|end|return b", 0, 0},
		{"workflow w n|do a pay n undo back|patch fast|sleep 1|end|return a", 0, 0},
		{"workflow w n|do a pay n|patch fast|sleep 1|else|sleep 2|end|return a", 0, 0},
		{"workflow w n|do a pay n|return a", 3, impl.HistUnlike},
		{"workflow w n|do a pay n|sleep 1|return a", 3, impl.HistUnlike},
		{"workflow w n|do a pay n|patch fast|sleep 2|end|return a", 4, impl.HistUnlike},
		{"workflow w n|do a pay n|patch fast|do a pay n|end|return a", 4, impl.HistUnlike},
		{"workflow w n|do a pay n|patch fast|sleep 1|end|return n", 6, impl.HistUnlike},
		{"workflow w n|do a pay n|patch fast|sleep 1|end|fail a", 6, impl.HistUnlike},
		{"workflow w n|do a pay n|patch fast|sleep 1|sleep 1|end|return a", 6, impl.HistUnlike},
		{"workflow w n|do a pay n|patch fast|get b go for 1|end|return a", 0, 0},
		{"workflow w n|do a pay n|patch fast|get b go|end|return a", 4, impl.HistUnlike},
		{"workflow w n|do a pay n|patch fast|both|sleep 1|and|end|end|return a", 4, impl.HistUnlike},
		// Without its mark at the beginning the patch is not there then; behind what came it is passed already.
		{"workflow w n|patch fast|sleep 1|end|do a pay n|return a", 3, impl.HistUnlike},
		{"workflow w n|do a mail n|return a", 1, impl.HistUnlike},
		{"workflow w n|return n", 1, impl.HistUnlike},
		{"workflow w n|get a go|return a", 1, impl.HistUnlike},
		{"workflow w|do a pay 3|return a", 0, impl.HistNever},
		{"workflow w n m|do a pay n|return a", 0, impl.HistNever},
		{"workflow w n|both|do a pay n|and|do b pay n|end|return a", 1, impl.HistUnlike},
	} {
		lines := flow(t, c.text)
		if c.code == 0 {
			if _, f := impl.HistReplay(lines, list); f.Code != 0 {
				t.Errorf("%s: %+v", c.text, f)
			}
			continue
		}
		faulty(t, lines, list, c.at, c.code)
	}
}

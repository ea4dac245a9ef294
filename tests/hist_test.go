package tests

import (
	"fmt"
	"slices"
	"strings"
	"testing"
	"unsafe"

	"loop.example/dunlin/impl"
)

const payFlow = "workflow w n|do a pay n|patch fast|sleep 1|end|return a"

const payHist = "start 3|ask 1 0 pay 3|done 1 4|mark fast|ask 2 1 - 1|fired 2|end 1 4"

// lined has a newline behind each entry.
func lined(text string) string {
	return strings.ReplaceAll(text, "|", "\n") + "\n"
}

func TestHistoriesOfPlays(t *testing.T) {
	for _, c := range []struct {
		text    string
		args    []int
		signals []impl.RunVar
		picks   []int
		most    int
		want    string
	}{
		{payFlow, []int{3}, nil, nil, 50, payHist},
		{payFlow, []int{3}, nil, nil, 1, "start 3|ask 1 0 pay 3|done 1 4|mark fast|ask 2 1 - 1"},
		{payFlow, []int{3}, nil, nil, 0, "start 3|ask 1 0 pay 3"},
		{payFlow, []int{3}, nil, nil, -1, "start 3|ask 1 0 pay 3"},
		{payFlow, []int{3}, vars("go 1", "go -9999"), nil, 0, "start 3|ask 1 0 pay 3|signal go 1|signal go -9999"},
		{tripFlow, []int{1}, nil, nil, 50, "start 1|ask 1 0 book 1|done 1 0|mark quick|ask 2 0.1 book 1|ask 3 1.1 send 1|done 2 4|ask 4 0.2 - 30|done 3 -1|fired 4|ask 5 0.1- unbook 4|done 5 3|ask 6 0- unbook 0|done 6 1|end 2 7"},
		{tripFlow, []int{2}, vars("go 3", "x 4"), nil, 50, "start 2|ask 1 0 book 2|signal go 3|signal x 4|done 1 1|mark quick|ask 2 0.1 book 2|ask 3 1.1 send 2|done 2 -2|done 3 0|ask 4 2 work 0|done 4 1|ask 5 3 work 1|done 5 2|end 1 -2"},
		{tripFlow, []int{2}, vars("go 3", "x 4"), []int{1}, 50, "start 2|ask 1 0 book 2|signal go 3|signal x 4|done 1 1|mark quick|ask 2 0.1 book 2|ask 3 1.1 send 2|done 3 0|done 2 -2|ask 4 2 work 0|done 4 1|ask 5 3 work 1|done 5 2|end 1 -2"},
		// What a run says at once.
		{"workflow w|return 5", nil, nil, nil, 9, "start|end 1 5"},
		{"workflow w|fail -9999", nil, nil, nil, 9, "start|end 2 -9999"},
		{"workflow w a b c|next a b c", []int{1, -2, 9999}, nil, nil, 9, "start 1 -2 9999|end 3 0 1 -2 9999"},
		{"workflow w a b c|next", []int{1, -2, 9999}, nil, nil, 9, "start 1 -2 9999|end 3 0"},
		{"workflow w|fail -9003", nil, nil, nil, 9, "start|end 4 -9003"},
		{"workflow w|get a go|return a", nil, nil, nil, 9, "start"},
		{"workflow w|get a go|return a", nil, vars("x 1", "go 2", "go 3"), nil, 9, "start|signal x 1|signal go 2|end 1 2"},
		{"workflow w|get a go for 3|return a", nil, vars("go 2"), nil, 9, "start|ask 1 0 - 3|signal go 2|end 1 2"},
		{"workflow w|get a go for 3|return a", nil, nil, nil, 9, "start|ask 1 0 - 3|fired 1|end 1 -1"},
		{"workflow w|do a x 1 2 3|return a", nil, nil, nil, 0, "start|ask 1 0 x 1 2 3"},
		// Signals that have a code did not happen.
		{"workflow w|get a go|return a", nil, []impl.RunVar{{Name: "Go", Num: 1}, {Name: "x", Num: 10000}, {Name: "x", Num: 1}}, nil, 9, "start|signal x 1"},
		// Marks come ascending, ahead of asks, each once.
		{"workflow w|patch z|end|sleep 1|patch b|end|patch z|end|patch a|end|sleep 2|patch b|end|return 1", nil, nil, nil, 9, "start|mark z|ask 1 0 - 1|fired 1|mark a|mark b|ask 2 1 - 2|fired 2|end 1 1"},
		{"workflow w|both|sleep 1|patch y|end|and|patch z|end|patch x|end|end|return 1", nil, nil, nil, 9, "start|mark x|mark z|ask 1 0.0 - 1|fired 1|mark y|end 1 1"},
		{"workflow w|patch b|end|patch c|end|patch d|end|sleep 1|patch a|end|patch d|end|sleep 2|return 1", nil, nil, nil, 9, "start|mark b|mark c|mark d|ask 1 0 - 1|fired 1|mark a|ask 2 1 - 2|fired 2|end 1 1"},
		{"workflow w|patch b|patch a|return 1|end|end|return 2", nil, nil, nil, 9, "start|mark a|mark b|end 1 1"},
		// An ask that went again before anything came is never said.
		{"workflow w|both|do a x|and|let b mul 9999 2|end|return a", nil, nil, nil, 9, "start|end 2 -9001"},
		{"workflow w|do z x undo y|both|do a x|and|let b mul 9999 2|end|return a", nil, nil, nil, 9, "start|ask 1 0 x|done 1 3|ask 3 0- y 3|done 3 3|end 2 -9001"},
		// An ask that is there already is not said again.
		{"workflow w|both|sleep 1|sleep 2|and|sleep 3|end|return 1", nil, nil, nil, 9, "start|ask 1 0.0 - 1|ask 2 1.0 - 3|fired 1|ask 3 0.1 - 2|fired 2|fired 3|end 1 1"},
		{"workflow w|both|sleep 1|sleep 2|and|sleep 3|end|return 1", nil, nil, []int{1}, 9, "start|ask 1 0.0 - 1|ask 2 1.0 - 3|fired 2|fired 1|ask 3 0.1 - 2|fired 3|end 1 1"},
	} {
		lines := flow(t, c.text)
		list := impl.HistOf(lines, c.args, c.signals, c.picks, c.most)
		if got := rowsBy(list); got != c.want || histShape(list) != histShape(hist(t, c.want)) {
			t.Errorf("%s\n%s, asked for\n%s", c.text, got, c.want)
		}
		if text := impl.HistWrite(list); text != lined(c.want) {
			t.Errorf("%s: written %q", c.text, text)
		}
		s, _ := impl.RunPlay(lines, c.args, c.signals, c.picks, c.most)
		replays(t, lines, list, s)
	}
}

func TestWhatHasNoHistory(t *testing.T) {
	for _, c := range cannotBegin(t) {
		if list := impl.HistOf(c.lines, c.args, vars("go 1"), []int{1}, 10); len(list) != 0 {
			t.Errorf("%v: %v", c.args, list)
		}
	}
	lines := flow(t, "workflow w a|do b x a|return b")
	for _, n := range []int{9999, -9999} {
		if list := impl.HistOf(lines, []int{n}, nil, nil, 0); rowsBy(list) != fmt.Sprintf("start %d|ask 1 0 x %d", n, n) {
			t.Errorf("%d: %v", n, list)
		}
	}
}

// A play may be longer than a history that is replayed; its beginnings are not.
func TestHistoryOfALongPlay(t *testing.T) {
	for _, c := range []struct{ rounds, size int }{{197, 396}, {198, 398}, {199, 400}, {200, 402}} {
		lines := flow(t, fmt.Sprintf("workflow w|let i is 0|while i less %d|do a x|let i add i 1|end|return i", c.rounds))
		list := impl.HistOf(lines, nil, nil, nil, 300)
		if len(list) != c.size || rowBy(list[c.size-1]) != fmt.Sprintf("end 1 %d", c.rounds) {
			t.Fatalf("%d asks: %d entries, %s", c.rounds, len(list), rowBy(list[len(list)-1]))
		}
		if c.size > impl.HistMaxLen {
			faulty(t, lines, list, 0, impl.HistBad)
			if impl.HistWrite(list) != "" {
				t.Errorf("%d entries are written", c.size)
			}
			list = list[:impl.HistMaxLen]
		}
		if _, f := impl.HistReplay(lines, list); f.Code != 0 || impl.HistWrite(list) != lined(rowsBy(list)) {
			t.Errorf("%d entries: %+v", len(list), f)
		}
	}
	// Signals that are waited for are as many as there are.
	lines := flow(t, "workflow w|let i is 0|while i less 500|get a go|let i add i 1|end|return i")
	if list := impl.HistOf(lines, nil, manyVars(450), nil, 0); len(list) != 451 || rowBy(list[450]) != "signal go 1" {
		t.Errorf("%d", len(list))
	}
}

func TestHistoriesGrow(t *testing.T) {
	lines := flow(t, payFlow)
	list := hist(t, "start 3|ask 1 0 pay 3")
	for _, c := range []struct {
		hap  impl.RunHap
		want string
	}{
		{signal("x", 1), "start 3|ask 1 0 pay 3|signal x 1"},
		{done(1, -5), "start 3|ask 1 0 pay 3|done 1 -5|mark fast|ask 2 1 - 1"},
		{broke(1, 9999), "start 3|ask 1 0 pay 3|broke 1 9999|end 2 9999"},
		{broke(1, -9003), "start 3|ask 1 0 pay 3|broke 1 -9003|end 4 -9003"},
		{cancel(), "start 3|ask 1 0 pay 3|cancel|end 4 -9003"},
		// What a kind has no place for is not written.
		{impl.RunHap{Kind: impl.HapCancel, Id: 7, Name: "No name", Num: 99999}, "start 3|ask 1 0 pay 3|cancel|end 4 -9003"},
		{impl.RunHap{Kind: impl.HapSignal, Id: 7, Name: "x", Num: 1}, "start 3|ask 1 0 pay 3|signal x 1"},
		{impl.RunHap{Kind: impl.HapDone, Id: 1, Name: "x", Num: -5}, "start 3|ask 1 0 pay 3|done 1 -5|mark fast|ask 2 1 - 1"},
		{impl.RunHap{Kind: impl.HapBroke, Id: 1, Name: "x", Num: 9999}, "start 3|ask 1 0 pay 3|broke 1 9999|end 2 9999"},
	} {
		more := grows(t, lines, list, c.hap)
		if histShape(more) != histShape(hist(t, c.want)) {
			t.Errorf("%+v: %s, asked for %s", c.hap, rowsBy(more), c.want)
		}
		replays(t, lines, more, came(t, lines, begun(t, lines, 3), c.hap))
	}
	more := grows(t, lines, list, done(1, 4), impl.RunHap{Kind: impl.HapFired, Id: 2, Name: "x", Num: 99999})
	if rowsBy(more) != payHist {
		t.Errorf("%s", rowsBy(more))
	}
	// Beginnings of another kind: one that waits for a signal, and one that stands.
	lines = flow(t, "workflow w|get a go|return a")
	if got := rowsBy(grows(t, lines, hist(t, "start"), signal("x", 1), signal("go", 2))); got != "start|signal x 1|signal go 2|end 1 2" {
		t.Error(got)
	}
	stays(t, flow(t, "workflow w|return 5"), hist(t, "start|end 1 5"), cancel(), 2)
}

// A patch that was not there at first stays so, even if the run is live; a new one is there from then on.
func TestHistoriesOfPatchesGrow(t *testing.T) {
	lines := flow(t, "workflow w|let r is 0|patch p|let r add r 1|end|sleep 1|patch p|let r add r 10|end|patch q|let r add r 100|end|return r")
	for _, c := range []struct{ list, want string }{
		{"start|ask 1 0 - 1", "start|ask 1 0 - 1|fired 1|mark q|end 1 100"},
		{"start|mark p|ask 1 0 - 1", "start|mark p|ask 1 0 - 1|fired 1|mark q|end 1 111"},
	} {
		more := grows(t, lines, hist(t, c.list), fired(1))
		if rowsBy(more) != c.want {
			t.Errorf("%s, asked for %s", rowsBy(more), c.want)
		}
		if s, f := impl.HistReplay(lines, more); f.Code != 0 || s.Result != more[len(more)-1].Nums[0] {
			t.Errorf("%+v, %+v", f, s)
		}
	}
	// Marks of what came last count for it alone: by none of them is q there here.
	if s, f := impl.HistReplay(lines, hist(t, "start|mark p|ask 1 0 - 1|fired 1|end 1 11")); f.Code != 0 || !slices.Equal(s.Marks, vars("p 1", "q 0")) {
		t.Errorf("%+v, %+v", f, s)
	}
}

func TestCodesOfMore(t *testing.T) {
	lines := flow(t, "workflow w|both|do a x undo u|and|get b go for 5|end|do c y|return c")
	list := hist(t, "start|ask 1 0.0 x|ask 2 1.0 - 5")
	for _, c := range []struct {
		h    impl.RunHap
		code int
	}{
		{done(3, 1), 3}, {done(2, 1), 3}, {broke(0, 1), 3}, {broke(2, 1), 3}, {fired(1), 3}, {fired(7), 3}, {done(1, 10000), 5}, {broke(1, -10000), 5},
		{signal("", 1), 5}, {signal("Go", 1), 5}, {signal("go", 10000), 5}, {impl.RunHap{}, 5}, {impl.RunHap{Kind: 6}, 5}, {impl.RunHap{Kind: -1}, 5},
		// Two at once.
		{done(7, 10000), 3}, {broke(2, -10000), 3},
	} {
		stays(t, lines, list, c.h, c.code)
		// With a fault there is nothing, whatever is to happen.
		for _, wrong := range [][]impl.HistEntry{nil, list[:1], list[:2], list[1:]} {
			if more, code := impl.HistMore(lines, wrong, c.h); code != 1 || len(more) != 0 {
				t.Errorf("%+v behind %v: %d, %v", c.h, wrong, code, more)
			}
		}
		if more, code := impl.HistMore(nil, list, c.h); code != 1 || len(more) != 0 {
			t.Errorf("%+v of no workflow: %d, %v", c.h, code, more)
		}
	}
	full := list
	for range impl.RunMaxBox {
		full = grows(t, lines, full, signal("x", 1))
	}
	stays(t, lines, full, signal("x", 1), 4)
	stays(t, lines, full, signal("go", 1), 4)
	stays(t, lines, full, signal("x", 10000), 5)
	over := grows(t, lines, full, cancel())
	if rowBy(over[len(over)-1]) != "end 4 -9003" {
		t.Fatalf("%s", rowsBy(over))
	}
	for _, h := range haps(done(1, 2), fired(2), signal("Go", 1), signal("x", 1), cancel(), impl.RunHap{Kind: 9}) {
		stays(t, lines, over, h, 2)
	}
}

// endingHist is a history of so many entries; the run is ending: being cancelled again changes nothing.
func endingHist(t *testing.T, size int) ([]impl.FlowLine, []impl.HistEntry) {
	t.Helper()
	lines := flow(t, "workflow w|do a x undo y|do b x undo z|sleep 1|return a")
	list := hist(t, "start|ask 1 0 x|done 1 5|ask 2 1 x|done 2 6|ask 3 2 - 1|cancel|ask 4 1- z 6")
	for len(list) < size {
		list = append(list, impl.HistEntry{Kind: impl.EntCancel})
	}
	return lines, list
}

func TestHistoriesAtTheirLimit(t *testing.T) {
	for _, c := range []struct {
		size  int
		hap   impl.RunHap
		code  int
		added string
	}{
		{397, done(4, 1), 0, "done 4 1|ask 5 0- y 5"},
		{398, done(4, 1), 0, "done 4 1|ask 5 0- y 5"},
		{399, done(4, 1), 10, ""},
		{400, done(4, 1), 10, ""},
		{398, signal("go", 1), 0, "signal go 1"},
		{399, signal("go", 1), 0, "signal go 1"},
		{400, signal("go", 1), 10, ""},
		{399, cancel(), 0, "cancel"},
		{400, cancel(), 10, ""},
		// RunDo's codes are ahead of it.
		{399, done(3, 1), 3, ""}, {400, done(3, 1), 3, ""}, {400, fired(4), 3, ""}, {400, signal("go", 10000), 5, ""}, {400, impl.RunHap{Kind: 6}, 5, ""},
		// With one entry more it is no history any more.
		{401, cancel(), 1, ""}, {401, done(3, 1), 1, ""},
	} {
		lines, list := endingHist(t, c.size)
		more, code := impl.HistMore(lines, list, c.hap)
		want := histShape(append(copyHist(list), hist(t, c.added)...))
		if code == 1 {
			want = histShape(nil)
		}
		if code != c.code || histShape(more) != want {
			t.Errorf("%d entries, %+v: code %d, %d entries", c.size, c.hap, code, len(more))
		}
	}
	lines, list := endingHist(t, 399)
	list = append(list, hist(t, "done 4 1|ask 5 0- y 5")...)
	faulty(t, lines, list, 0, impl.HistBad)
	if _, f := impl.HistReplay(lines, list[:400]); f != (impl.HistFault{At: 400, Code: impl.HistMissing}) {
		t.Errorf("%+v", f)
	}
	// One that stands, or whose box is full.
	lines, list = endingHist(t, 396)
	list = grows(t, lines, list, done(4, 1), done(5, 1))
	if len(list) != 400 || rowBy(list[399]) != "end 4 -9003" {
		t.Fatalf("%d: %s", len(list), rowBy(list[len(list)-1]))
	}
	stays(t, lines, list, cancel(), 2)
	lines, list = endingHist(t, 380)
	for range impl.RunMaxBox {
		list = grows(t, lines, list, signal("go", 1))
	}
	stays(t, lines, list, signal("go", 1), 4)
	stays(t, lines, list, cancel(), 10)
}

// rightRows are entries that are ok; of each kind the least and the most that it may have.
var rightRows = []string{
	"start", "start 1", "start -9999 9999 0", "mark a", "mark a2345678", "mark start",
	"ask 1 0 x", "ask 9999 0 x", "ask 1 0 -", "ask 1 - -", "ask 1 - - -1", "ask 1 . - 5", "ask 2 01.9999- x2345678 1 2 3", "ask 2 123456789012345678901234 x -9999 9999 0", "ask 3 1 done 1", "ask 3 1 - 1 2 3",
	"done 1 0", "done 9999 9999", "done 5 -9999", "broke 1 0", "broke 9999 -9999", "broke 5 9999", "fired 1", "fired 9999",
	"signal a 0", "signal cancel -9999", "signal z9999999 9999", "cancel",
	"end 1 0", "end 2 -9999", "end 3 0 1 2 3", "end 4 9999", "end 1 0 1", "end 3 -9999 -9999 -9999 -9999",
}

// wrongRows are lines that no entry is written as.
var wrongRows = []string{
	"", " ", "what", "what 1", "Start", "START 1", "starts", "star", "start1", "0", "1", "-", "no 1 1",
	"start 1 2 3 4", "start x", "start 10000", "start -10000", "start 01", "start -0", "start 00", "start +1", "start 1.0", "start 1_0", "start 0x1", "start --1", "start 1-", "start -", "start 99999999999999999999", "start ", " start", "start  1", "start 1 ", " start 1", "start\t1", "start 1\t", "start 1\r", "start\u00a01", "start ١", "start 1\x00",
	"mark", "mark ", "mark  a", "mark a b", "mark a 1", "mark A", "mark 1a", "mark a23456789", "mark -", "mark é", "mark \xff", "mark a\xff", "mark a ", " mark a", "mark 1",
	"ask", "ask 1", "ask 1 0", "ask 0 0 -", "ask -1 0 -", "ask 10000 0 x", "ask 01 0 x", "ask +1 0 x", "ask x 0 x", "ask 1 0 X", "ask 1 0 x234567890", "ask 1 a x", "ask 1 1234567890123456789012345 x", "ask 1  x", "ask 1 0 ", "ask 1 0  1", "ask 1 0 -x", "ask 1 0 --", "ask 1 0 - x", "ask 1 0 x y", "ask 1 0 x 1 2 3 4", "ask 1 0 x 10000", "ask 1 0 x -10000", "ask 1 0 x 007", "ask 1 0 x -", "ask 1 0 1", "ask 1 0 - -", "ask 1 0\u00a0- 1", "ask 1 0/ x", "ask 1 0: x",
	"done", "done 1", "done 1 ", "done 0 1", "done -1 1", "done 10000 1", "done 01 1", "done 1 01", "done 1 1 1", "done 1 10000", "done 1 -10000", "done 1 x", "done x 1", "done +1 1", "done 1 +1", "done 1  1", "done 1 -0",
	"broke", "broke 1", "broke 0 1", "broke 10000 1", "broke 1 1 1", "broke 1 10000", "broke 1 -10000", "broke 1 x", "broke 1 1 ", "broken 1 1",
	"fired", "fired ", "fired 0", "fired -1", "fired 10000", "fired 01", "fired 1 1", "fired 1 ", "fired x", "fired +1", "fired  1",
	"signal", "signal go", "signal go ", "signal go 1 2", "signal go 10000", "signal go -10000", "signal Go 1", "signal 1 1", "signal go x", "signal 1 go 1", "signal go 1 ", "signal  1", "signal a23456789 1", "signal - 1", "signal g\xffo 1",
	"cancel 1", "cancel ", " cancel", "cancel x", "cancels",
	"end", "end 1", "end 0 0", "end 5 0", "end -1 0", "end 1 ", "end 01 0", "end 1 00", "end 3 0 1 2 3 4", "end 1 10000", "end 1 -10000", "end 1 x", "end done 1", "end 10000 0", "end 1 0 ",
}

func TestEntriesThereAndBack(t *testing.T) {
	for _, row := range rightRows {
		list, ok := impl.HistRead(row + "\n")
		if !ok || histShape(list) != histShape(hist(t, row)) {
			t.Errorf("%q: %v, %+v", row, ok, list)
		}
		if text := impl.HistWrite(hist(t, row)); text != row+"\n" || !entryForm.MatchString(row) {
			t.Errorf("%q: written %q", row, text)
		}
	}
	all := strings.Join(rightRows, "\n") + "\n"
	list, ok := impl.HistRead(all)
	if !ok || impl.HistWrite(list) != all || histShape(list) != histShape(hist(t, strings.Join(rightRows, "|"))) {
		t.Errorf("%v: %s", ok, rowsBy(list))
	}
	// No history at all is one that is written.
	if list, ok := impl.HistRead(""); !ok || len(list) != 0 || impl.HistWrite(nil) != "" {
		t.Errorf("%v, %v", ok, list)
	}
}

// notRead asks that a text is not read, and that nothing is told of it.
func notRead(t *testing.T, text string) {
	t.Helper()
	if list, ok := impl.HistRead(text); ok || len(list) != 0 {
		t.Errorf("%.99q is read: %v", text, list)
	}
}

func TestTextsThatAreNoHistory(t *testing.T) {
	for _, row := range wrongRows {
		notRead(t, row+"\n")
		notRead(t, "start 1\n"+row+"\ncancel\n")
		notRead(t, row+"\nstart 1\n")
		if row != "" {
			notRead(t, "start 1\n"+row)
		}
	}
	for _, text := range []string{"start", "cancel", "start 3\nfired 1", "\nstart\n", "start\n\n", "start\n\nfired 1\n", "\n\n", "start\r\nfired 1\r\n", "start fired 1\n", "start|fired 1|", "start\x00\n", "\xff\n", "\x00", "\ufeffstart\n", "start\n\xff", "start\u2028fired 1\n", "start\vfired 1\n", "workflow w\nreturn 1\n"} {
		notRead(t, text)
	}
}

// sized is a history of so many bytes and entries, each of which has 10 to 43 bytes.
func sized(bytes, entries int) string {
	var text strings.Builder
	for left := entries; left > 0; left-- {
		more := bytes/left - len("ask 1 5 x\n")
		bytes -= bytes / left
		key := min(more, 23)
		name := min(more-key, 7)
		id := more - key - name
		fmt.Fprintf(&text, "ask 1%s 5%s x%s\n", strings.Repeat("0", id), strings.Repeat(".", key), strings.Repeat("y", name))
	}
	return text.String()
}

func TestTextsAtTheirLimit(t *testing.T) {
	for _, c := range []struct {
		bytes, entries int
		ok             bool
	}{
		{15999, 400, true}, {16000, 400, true}, {16001, 400, false}, {16000, 399, true}, {16001, 399, false},
		{15600, 400, true}, {16000, 401, false}, {15639, 401, false}, {15999, 500, false},
	} {
		text := sized(c.bytes, c.entries)
		if len(text) != c.bytes || strings.Count(text, "\n") != c.entries {
			t.Fatalf("%d bytes of %d, %q", len(text), c.bytes, text[:80])
		}
		list, ok := impl.HistRead(text)
		if ok != c.ok || ok && (len(list) != c.entries || impl.HistWrite(list) != text) || !ok && len(list) != 0 {
			t.Errorf("%d bytes, %d entries: %v, %d", c.bytes, c.entries, ok, len(list))
		}
		byHand := hist(t, strings.TrimSuffix(strings.ReplaceAll(text, "\n", "|"), "|"))
		want := text
		if c.entries > impl.HistMaxLen {
			want = ""
		}
		// What is written may be too long to be read.
		if impl.HistWrite(byHand) != want {
			t.Errorf("%d bytes, %d entries are not written", c.bytes, c.entries)
		}
	}
	for _, c := range []struct {
		size int
		ok   bool
	}{{399, true}, {400, true}, {401, false}, {2000, false}} {
		text := strings.Repeat("cancel\n", c.size)
		list, ok := impl.HistRead(text)
		if ok != c.ok || ok && len(list) != c.size || !ok && len(list) != 0 {
			t.Errorf("%d entries: %v, %d", c.size, ok, len(list))
		}
		written := impl.HistWrite(slices.Repeat([]impl.HistEntry{{Kind: impl.EntCancel}}, c.size))
		if c.ok != (written == text) || !c.ok && written != "" {
			t.Errorf("%d entries: written %d bytes", c.size, len(written))
		}
	}
	notRead(t, strings.Repeat("\n", 16000))
	notRead(t, strings.Repeat("start 1\n", 1<<17))
}

// entryChange is one to an entry that is ok, and whether it is ok behind that.
type entryChange struct {
	ok   bool
	make func(e *impl.HistEntry)
}

// changesOf are of each part of an entry, by what its kind may have.
func changesOf(idMost int, key bool, name string, least, most int) []entryChange {
	var list []entryChange
	for _, id := range []int{-1, 0, 1, 2, 4, 5, 9999, 10000, -9999, 1 << 40} {
		list = append(list, entryChange{id == 0 && idMost == 0 || id >= 1 && id <= idMost, func(e *impl.HistEntry) { e.Id = id }})
	}
	for _, c := range keysAt(24) {
		list = append(list, entryChange{key && c.ok || !key && c.key == "", func(e *impl.HistEntry) { e.Key = c.key }})
	}
	for _, n := range []string{"", "a", "a2345678", "a23456789", "A", "1", "-", "go 1", "é", "a\xff", "a\n"} {
		ok := n == "" && name != "always" || (n == "a" || n == "a2345678") && name != "never"
		list = append(list, entryChange{ok, func(e *impl.HistEntry) { e.Name = n }})
	}
	for count := range 6 {
		fits := count >= least && count <= most
		list = append(list, entryChange{fits, func(e *impl.HistEntry) { e.Nums = make([]int, count) }})
		for place := range count {
			for _, n := range []int{9999, -9999, 10000, -10000, 1 << 40} {
				list = append(list, entryChange{fits && within(n), func(e *impl.HistEntry) { e.Nums = make([]int, count); e.Nums[place] = n }})
			}
		}
	}
	for _, kind := range []int{0, -1, 10, 99, -9, 1 << 40} {
		list = append(list, entryChange{false, func(e *impl.HistEntry) { e.Kind = kind }})
	}
	return list
}

func TestEntriesThatAreOk(t *testing.T) {
	lines, whole := endingHist(t, 8)
	for _, c := range []struct {
		row  string
		list []entryChange
	}{
		{"start 1", changesOf(0, false, "never", 0, 3)},
		{"mark p", changesOf(0, false, "always", 0, 0)},
		{"ask 1 0 x 1", changesOf(9999, true, "either", 0, 3)},
		{"done 1 1", changesOf(9999, false, "never", 1, 1)},
		{"broke 1 1", changesOf(9999, false, "never", 1, 1)},
		{"fired 1", changesOf(9999, false, "never", 0, 0)},
		{"signal go 1", changesOf(0, false, "always", 1, 1)},
		{"cancel", changesOf(0, false, "never", 0, 0)},
		{"end 1 1", changesOf(4, false, "never", 1, 4)},
	} {
		for _, change := range c.list {
			e := entryBy(t, c.row)
			change.make(&e)
			text := impl.HistWrite([]impl.HistEntry{e})
			if change.ok != entryOkBy(e) || change.ok != (text != "") || change.ok && text != rowBy(e)+"\n" {
				t.Errorf("%s: ok is not %v: %+v, written %q", c.row, change.ok, e, text)
				continue
			}
			if back, ok := impl.HistRead(text); change.ok && (!ok || histShape(back) != histShape([]impl.HistEntry{e})) {
				t.Errorf("%q: read as %+v", text, back)
			}
			// One that is not ok is told at its place, wherever that is.
			for _, place := range []int{0, 3, 7, 8} {
				list := slices.Insert(slices.Clone(whole), place, e)
				switch {
				case !change.ok:
					faulty(t, lines, list, place, impl.HistBad)
					if impl.HistWrite(list) != "" {
						t.Errorf("written with %+v", e)
					}
				case impl.HistWrite(list) != lined(rowsBy(list)):
					t.Errorf("not written with %+v", e)
				}
			}
		}
	}
}

// What is read keeps no piece of the text, and no answer shares memory with what was handed in.
func TestHistoriesAreNewMemory(t *testing.T) {
	text := strings.Clone(lined("start 1 2|mark fast|ask 1 0.1 pay 3 4|ask 2 1 - 1|signal go 3|end 3 0 1 2"))
	low := uintptr(unsafe.Pointer(unsafe.StringData(text)))
	list, _ := impl.HistRead(text)
	for _, e := range list {
		for _, s := range []string{e.Key, e.Name} {
			if p := uintptr(unsafe.Pointer(unsafe.StringData(s))); s != "" && p >= low && p < low+uintptr(len(text)) {
				t.Errorf("%q is a piece of the text", s)
			}
		}
	}
	lieApart(t, spansOfHist("read", list))
	lines, args := flow(t, "workflow w a b|both|do c x a b undo y|and|do d x b a|end|get e go|patch p|end|next c d e"), []int{4, 5}
	for i := range lines {
		lines[i].Args = roomy(lines[i].Args, "behind")
	}
	lines = roomy(lines, impl.FlowLine{Kind: 77})
	args = roomy(args, 77)
	signals, picks := roomy(vars("go 1", "x 2"), impl.RunVar{Num: 77}), roomy([]int{1, 0}, 77)
	given := slices.Concat(spansOfLines("lines", lines), spanOf("args", args), spanOf("signals", signals), spanOf("picks", picks))
	before := fmt.Sprint(lines[:cap(lines)], args[:cap(args)], signals[:cap(signals)], picks[:cap(picks)])
	played := impl.HistOf(lines, args, signals, picks, 20)
	if rowBy(played[len(played)-1])[:6] != "end 3 " {
		t.Fatalf("%s", rowsBy(played))
	}
	lieApart(t, given, spansOfHist("played", played))
	begun := roomyHist(impl.HistOf(lines, args, nil, nil, 2))
	kept := wholeHist(begun)
	for _, h := range haps(signal("go", 7), signal("Go", 7), cancel(), fired(1), impl.RunHap{}) {
		more, _ := impl.HistMore(lines, begun, h)
		lieApart(t, given, spansOfHist("begun", begun), spansOfHist("more", more))
		s, _ := impl.HistReplay(lines, begun)
		lieApart(t, given, spansOfHist("begun", begun), spansOf("replayed", s))
		impl.HistWrite(begun)
		if wholeHist(begun) != kept || fmt.Sprint(lines[:cap(lines)], args[:cap(args)], signals[:cap(signals)], picks[:cap(picks)]) != before {
			t.Fatalf("%+v changed %s to %s", h, kept, wholeHist(begun))
		}
	}
	// What was taken out of Undo is nowhere behind its end.
	ending, undoing := endingHist(t, 8)
	s, _ := impl.HistReplay(ending, undoing)
	if len(s.Undo) != 1 {
		t.Errorf("%+v", s)
	}
	lieApart(t, spansOfHist("ending", undoing), spansOf("replayed", s))
	for _, list := range [][]impl.HistEntry{begun[:1], begun[:2], begun[1:]} {
		impl.HistReplay(lines, list)
		if more, _ := impl.HistMore(lines, list, cancel()); len(more) != 0 || wholeHist(begun) != kept {
			t.Errorf("%v", more)
		}
	}
}

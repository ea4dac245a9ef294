package tests

import (
	"fmt"
	"math"
	"slices"
	"strings"
	"testing"

	"loop.example/dunlin/impl"
)

const orderFlow = "workflow order n|do a pay n undo back|get b go|do c mail b|return c"

const waitFlow = "workflow wait n|both|do a pay n undo back|and|sleep 5|end|get b go for 9|return b"

// A service opens with shards that nobody holds, and workers that are up.
func TestServicesOpen(t *testing.T) {
	a, b := flow(t, orderFlow), flow(t, "workflow w|return 1")
	for shards := 1; shards <= 3; shards++ {
		for workers := 1; workers <= 3; workers++ {
			for flows := 1; flows <= 4; flows++ {
				list := [][]impl.FlowLine{a, b, a, b}[:flows]
				w, ok := impl.ServOpen(list, shards, workers)
				want := impl.ServWorld{Flows: list, Shards: slices.Repeat([]impl.ServShard{{Owner: -1}}, shards), Workers: slices.Repeat([]impl.ServWorker{{Up: true, Terms: make([]int, shards)}}, workers)}
				if !ok || servShape(w) != servShape(want) {
					t.Errorf("%d shards, %d workers, %d flows: %v, %s", shards, workers, flows, ok, servShape(w))
				}
				if !impl.ServOk(w) || !impl.ServSafe(w) || worldOkBy(w) != "" {
					t.Errorf("not ok, or not safe: %s", servShape(w))
				}
				servBoards(t, w, "now 0"+strings.Repeat("|shard -1 term 0 until 0", shards))
				lieApart(t, spansOfServ("opened", w), spansOfLines("a", a), spansOfLines("b", b), spanOf("list", list))
			}
		}
	}
}

func TestServicesThatDoNotOpen(t *testing.T) {
	a, b := flow(t, orderFlow), flow(t, "workflow w|return 1")
	for _, c := range []struct {
		flows           [][]impl.FlowLine
		shards, workers int
	}{
		{nil, 1, 1},
		{[][]impl.FlowLine{}, 1, 1},
		{[][]impl.FlowLine{a, b, a, b, a}, 1, 1},
		{[][]impl.FlowLine{nil}, 1, 1},
		{[][]impl.FlowLine{a, b, a, nil}, 1, 1},
		{[][]impl.FlowLine{a, a[:2]}, 1, 1},
		{[][]impl.FlowLine{b[:1], a}, 1, 1},
		{[][]impl.FlowLine{a}, 0, 1},
		{[][]impl.FlowLine{a}, 4, 1},
		{[][]impl.FlowLine{a}, -1, 1},
		{[][]impl.FlowLine{a}, math.MaxInt, 1},
		{[][]impl.FlowLine{a}, math.MinInt, 1},
		{[][]impl.FlowLine{a}, 1, 0},
		{[][]impl.FlowLine{a}, 1, 4},
		{[][]impl.FlowLine{a}, 1, -1},
		{[][]impl.FlowLine{a}, 1, math.MaxInt},
		{[][]impl.FlowLine{a}, 1, math.MinInt},
	} {
		if w, ok := impl.ServOpen(c.flows, c.shards, c.workers); ok || servShape(w) != servShape(impl.ServWorld{}) {
			t.Errorf("%d flows, %d shards, %d workers: %v, %s", len(c.flows), c.shards, c.workers, ok, servShape(w))
		}
	}
}

// fullWorld has something in each place: runs that wait, are done, and are without a history, tasks, effects and tokens.
func fullWorld(t *testing.T) impl.ServWorld {
	t.Helper()
	w := opened(t, 2, 2, waitFlow, "workflow tiny|return 1")
	w = serves(t, w, "begin ann 0 2|begin bob 1|begin cat 0 3|begin dot 0 4|tick|lease 0 0|lease 1 1")
	w = serves(t, w, "take 1 0|write 1|take 1 1|write 1|take 0 2|write 0|try 0 1|signal 0 7 go 3|signal 2 5 no 1|cancel 3|lost 2 1|take 1 0|take 1 0|take 0 2")
	servBoards(t, w, "now 1|shard 0 term 1 until 5|shard 1 term 1 until 5|ann/0 live 0, 3 written, 2 waiting|bob/0 done 1, 2 written, 0 waiting|cat/0 live 0, 3 written, 1 waiting|dot/0 live 0, 0 written, 1 waiting|ann/0/0.0 -2, tried 1|cat/0/0.0 -1, tried 1")
	return w
}

// changing is a thing that is changed of a world that is ok, and whether it stays so.
type changing[W any] struct {
	what string
	ok   bool
	make func(w *W)
}

type servChange = changing[impl.ServWorld]

func allChanged(t *testing.T, list []servChange) {
	t.Helper()
	told := func(what string, x impl.ServWorld, ok bool) {
		if !ok {
			notOk(t, what, x)
		} else if impl.ServBoard(x) != boardBy(x) {
			t.Errorf("%s: %q", what, impl.ServBoard(x))
		}
	}
	servDeeds.changed(t, fullWorld(t), list, told, evTick(), evTake(0, 2), evWrite(1), evTry(0, 1), evFire(0, 2), evBegin("bo", 1))
}

// each makes a change for each number, of which those in a range are ok.
func each[W any](what string, least, most int, set func(w *W, n int)) []changing[W] {
	var list []changing[W]
	for _, n := range []int{math.MinInt, least - 1, least, least + 1, most - 1, most, most + 1, math.MaxInt} {
		list = append(list, changing[W]{fmt.Sprint(what, " ", n), least <= n && n <= most, func(w *W) { set(w, n) }})
	}
	return list
}

func TestWorldsOk(t *testing.T) {
	allChanged(t, []servChange{{"as it is", true, func(w *impl.ServWorld) {}}})
	allChanged(t, each("Now", 0, 100000, func(w *impl.ServWorld, n int) { w.Now = n }))
	allChanged(t, []servChange{
		{"no flows", false, func(w *impl.ServWorld) { w.Flows, w.Runs, w.Workers[0].Tasks, w.Workers[1].Tasks = nil, nil, nil, nil }},
		{"four flows", true, func(w *impl.ServWorld) { w.Flows = append(w.Flows, w.Flows[0], w.Flows[1]) }},
		{"five flows", false, func(w *impl.ServWorld) { w.Flows = append(w.Flows, w.Flows[0], w.Flows[1], w.Flows[1]) }},
		{"a faulty flow", false, func(w *impl.ServWorld) { w.Flows = append(w.Flows, w.Flows[1][:1]) }},
		{"a flow of nothing", false, func(w *impl.ServWorld) { w.Flows = append(w.Flows, nil) }},
	})
}

func TestShardsOk(t *testing.T) {
	// tasks and terms are taken out of the way, so that only the shard is asked about.
	bare := func(set func(w *impl.ServWorld, s *impl.ServShard)) func(w *impl.ServWorld) {
		return func(w *impl.ServWorld) {
			w.Workers[0].Terms[0], w.Workers[0].Tasks = 0, nil
			set(w, &w.Shards[0])
		}
	}
	shards := func(count int) func(w *impl.ServWorld) {
		return func(w *impl.ServWorld) {
			w.Shards = append(w.Shards, w.Shards...)[:count]
			for i := range w.Workers {
				w.Workers[i].Terms = make([]int, count)
			}
		}
	}
	allChanged(t, []servChange{
		{"no shards", false, shards(0)}, {"one shard", true, shards(1)}, {"three shards", true, shards(3)}, {"four shards", false, shards(4)},
		{"owner -2", false, bare(func(w *impl.ServWorld, s *impl.ServShard) { s.Owner = -2 })},
		{"owner -1 with a term", false, bare(func(w *impl.ServWorld, s *impl.ServShard) { s.Owner = -1 })},
		{"owner -1 without", true, bare(func(w *impl.ServWorld, s *impl.ServShard) { s.Owner, s.Term = -1, 0 })},
		{"owner 0 without", false, bare(func(w *impl.ServWorld, s *impl.ServShard) { s.Term = 0 })},
		{"owner 1", true, bare(func(w *impl.ServWorld, s *impl.ServShard) { s.Owner = 1 })},
		{"owner 2", false, bare(func(w *impl.ServWorld, s *impl.ServShard) { s.Owner = 2 })},
		{"owner at no end", false, bare(func(w *impl.ServWorld, s *impl.ServShard) { s.Owner = math.MaxInt })},
		{"owner that is down", true, bare(func(w *impl.ServWorld, s *impl.ServShard) { w.Workers[0].Up = false })},
	})
	allChanged(t, each("Term", 1, 9999, func(w *impl.ServWorld, n int) { bare(func(w *impl.ServWorld, s *impl.ServShard) { s.Term = n })(w) }))
	allChanged(t, each("Until", 0, 100004, func(w *impl.ServWorld, n int) { w.Shards[1].Until = n }))
}

func TestRunsOfWorldsOk(t *testing.T) {
	run := func(place int, set func(x *impl.ServRun)) func(w *impl.ServWorld) {
		return func(w *impl.ServWorld) { set(&w.Runs[place]) }
	}
	named := func(name string) func(w *impl.ServWorld) {
		return run(3, func(x *impl.ServRun) { x.Name = name })
	}
	more := func(names ...string) func(w *impl.ServWorld) {
		return func(w *impl.ServWorld) {
			for _, name := range names {
				w.Runs = append(w.Runs, impl.ServRun{Name: name, Flow: 1})
			}
		}
	}
	allChanged(t, []servChange{
		{"six runs", true, more("e", "f")}, {"seven runs", false, more("e", "f", "g")},
		{"no runs", true, func(w *impl.ServWorld) { w.Runs, w.Workers[0].Tasks, w.Workers[1].Tasks = nil, nil, nil }},
		{"a name twice", false, more("dot")}, {"a name out of order", false, more("dos")}, {"a longer name behind", true, more("dota")},
		{"no name", false, named("")}, {"a great letter", false, named("Dot")}, {"a figure first", false, named("1d")}, {"a figure", true, named("d1")},
		{"a space", false, named("d t")}, {"eight bytes", true, named("dotdotdo")}, {"nine bytes", false, named("dotdotdot")}, {"a byte that is none", false, named("d\xff")},
		{"flow -1", false, run(1, func(x *impl.ServRun) { x.Flow = -1 })},
		{"flow past the end", false, run(1, func(x *impl.ServRun) { x.Flow = 2 })},
		{"the history of another flow", false, run(1, func(x *impl.ServRun) { x.Flow, x.Args = 0, []int{2} })},
		{"no args", false, run(0, func(x *impl.ServRun) { x.Args = nil })},
		{"too many args", false, run(0, func(x *impl.ServRun) { x.Args = []int{2, 2} })},
		{"other args than the history's", true, run(0, func(x *impl.ServRun) { x.Args = []int{5} })},
		{"no args, without a history", false, run(3, func(x *impl.ServRun) { x.Args = nil })},
		{"too many args, without a history", false, run(3, func(x *impl.ServRun) { x.Args = []int{2, 2} })},
		{"another chain than the tasks'", true, run(0, func(x *impl.ServRun) { x.Chain = 5 })},
		{"not begun, but closed", false, run(3, func(x *impl.ServRun) { x.Closed = true })},
		{"not begun, but tried", false, run(3, func(x *impl.ServRun) { x.Tries = []impl.ServTry{{Id: 1, Tries: 1}} })},
		{"not begun, but due", false, run(3, func(x *impl.ServRun) { x.Dues = []impl.ServDue{{Id: 1}} })},
		{"live, but closed", false, run(0, func(x *impl.ServRun) { x.Closed = true })},
		{"done, but not closed", false, run(1, func(x *impl.ServRun) { x.Closed = false })},
		{"a history of too little", false, run(0, func(x *impl.ServRun) { x.Hist = x.Hist[:2] })},
		{"a history of too much", false, run(0, func(x *impl.ServRun) { x.Hist = append(x.Hist, x.Hist[2]) })},
		{"a history unlike", false, run(0, func(x *impl.ServRun) { x.Hist[1].Name = "paid" })},
		{"a longer history", true, run(0, func(x *impl.ServRun) { x.Hist = append(x.Hist, impl.HistEntry{Kind: impl.EntFired, Id: 2}) })},
		{"without its history", false, run(0, func(x *impl.ServRun) { x.Hist = nil })},
		{"without its history, tries and dues", true, run(0, func(x *impl.ServRun) { x.Hist, x.Tries, x.Dues = nil, nil, nil })},
		{"done without its history", false, run(1, func(x *impl.ServRun) { x.Hist = nil })},
		{"done without a tail", false, run(1, func(x *impl.ServRun) { x.Hist = x.Hist[:1] })},
		{"closed, with tries and dues", true, run(1, func(x *impl.ServRun) {
			x.Tries, x.Dues = []impl.ServTry{{Id: 1, Tries: 1}}, []impl.ServDue{{Id: 1}}
		})},
		{"closed, with an inbox", true, run(1, func(x *impl.ServRun) { x.Inbox = haps(cancel(), signal("go", 1)) })},
	})
	for place := range 4 {
		allChanged(t, each(fmt.Sprint("Chain of ", place), 0, 99, func(w *impl.ServWorld, n int) { w.Runs[place].Chain = n }))
	}
	allChanged(t, each("Args", -9999, 9999, func(w *impl.ServWorld, n int) { w.Runs[0].Args = []int{n} }))
	allChanged(t, each("Args without a history", -9999, 9999, func(w *impl.ServWorld, n int) { w.Runs[3].Args = []int{n} }))
}

func TestInboxesOk(t *testing.T) {
	inbox := func(list ...impl.RunHap) func(w *impl.ServWorld) {
		return func(w *impl.ServWorld) { w.Runs[3].Inbox = list }
	}
	hap := func(kind int, name string, num int) impl.RunHap {
		return impl.RunHap{Kind: kind, Id: 1, Name: name, Num: num}
	}
	list := []servChange{
		{"thirty", true, inbox(slices.Repeat(haps(cancel()), 30)...)},
		{"thirty-one", false, inbox(slices.Repeat(haps(cancel()), 31)...)},
		{"no kind", false, inbox(hap(0, "", 0))}, {"another kind", false, inbox(hap(6, "", 0))}, {"a kind below", false, inbox(hap(-1, "go", 0))},
		{"the last one", false, inbox(cancel(), cancel(), hap(6, "go", 0))},
		{"done with a name", true, inbox(hap(1, "Bad Name", 0))}, {"broke with a name", true, inbox(hap(2, "Bad Name", 0))},
		{"fired with a name and a number", true, inbox(hap(3, "Bad Name", math.MaxInt))},
		{"a signal with an id", true, inbox(impl.RunHap{Kind: 4, Id: -9, Name: "go"})},
		{"a signal without a name", false, inbox(hap(4, "", 0))}, {"a signal with no name", false, inbox(hap(4, "Go", 0))},
		{"cancelled with all", true, inbox(impl.RunHap{Kind: 5, Id: -9, Name: "Bad Name", Num: math.MinInt})},
	}
	for kind := 1; kind <= 3; kind++ {
		list = append(list, each(fmt.Sprint("Id of kind ", kind), 1, 9999, func(w *impl.ServWorld, n int) { w.Runs[0].Inbox = haps(impl.RunHap{Kind: kind, Id: n}) })...)
	}
	for _, kind := range []int{1, 2, 4} {
		list = append(list, each(fmt.Sprint("Num of kind ", kind), -9999, 9999, func(w *impl.ServWorld, n int) { w.Runs[0].Inbox = haps(hap(kind, "go", n)) })...)
	}
	allChanged(t, list)
}

func TestTriesAndDuesOk(t *testing.T) {
	tries := func(list ...impl.ServTry) func(w *impl.ServWorld) {
		return func(w *impl.ServWorld) { w.Runs[0].Tries = list }
	}
	dues := func(list ...impl.ServDue) func(w *impl.ServWorld) {
		return func(w *impl.ServWorld) { w.Runs[0].Dues = list }
	}
	allChanged(t, []servChange{
		{"tries of what nobody asks for", true, tries(impl.ServTry{Id: 1, Tries: 1}, impl.ServTry{Id: 7, Tries: 1}, impl.ServTry{Id: 9999, Tries: 1})},
		{"tries twice", false, tries(impl.ServTry{Id: 7, Tries: 1}, impl.ServTry{Id: 7, Tries: 2})},
		{"tries out of order", false, tries(impl.ServTry{Id: 7, Tries: 1}, impl.ServTry{Id: 6, Tries: 2})},
		{"tried next below 0", false, tries(impl.ServTry{Id: 1, Tries: 1, Next: -1})},
		{"tried next far away", true, tries(impl.ServTry{Id: 1, Tries: 1, Next: math.MaxInt})},
		{"the last try", false, tries(impl.ServTry{Id: 1, Tries: 1}, impl.ServTry{Id: 2})},
		{"dues of what nobody asks for", true, dues(impl.ServDue{Id: 2, Tick: math.MaxInt}, impl.ServDue{Id: 9999, Tick: math.MinInt})},
		{"dues twice", false, dues(impl.ServDue{Id: 2}, impl.ServDue{Id: 2, Tick: 1})},
		{"dues out of order", false, dues(impl.ServDue{Id: 2}, impl.ServDue{Id: 1, Tick: 1})},
	})
	allChanged(t, each("Id of a try", 1, 9999, func(w *impl.ServWorld, n int) { w.Runs[0].Tries[0].Id = n }))
	allChanged(t, each("Tries of a try", 1, 100000, func(w *impl.ServWorld, n int) { w.Runs[0].Tries[0].Tries = n }))
	allChanged(t, each("Id of a due", 1, 9999, func(w *impl.ServWorld, n int) { w.Runs[0].Dues[0].Id = n }))
}

func TestWorkersOk(t *testing.T) {
	workers := func(count int) func(w *impl.ServWorld) {
		return func(w *impl.ServWorld) {
			w.Shards = []impl.ServShard{{Owner: -1}}
			w.Workers = slices.Repeat([]impl.ServWorker{{Up: true, Terms: []int{0}}}, count)
		}
	}
	worker := func(set func(k *impl.ServWorker)) func(w *impl.ServWorld) {
		return func(w *impl.ServWorld) { set(&w.Workers[1]) }
	}
	allChanged(t, []servChange{
		{"no workers", false, workers(0)}, {"one worker", true, workers(1)}, {"three workers", true, workers(3)}, {"four workers", false, workers(4)},
		{"too few terms", false, worker(func(k *impl.ServWorker) { k.Terms = k.Terms[:1] })},
		{"too many terms", false, worker(func(k *impl.ServWorker) { k.Terms = append(k.Terms, 0) })},
		{"no terms", false, worker(func(k *impl.ServWorker) { k.Terms = nil })},
		{"the other's term, too", true, worker(func(k *impl.ServWorker) { k.Terms[0] = 1 })},
		{"six tasks", true, worker(func(k *impl.ServWorker) { k.Tasks = slices.Repeat(k.Tasks, 3) })},
		{"seven tasks", false, worker(func(k *impl.ServWorker) { k.Tasks = append(slices.Repeat(k.Tasks, 3), k.Tasks[0]) })},
		{"down, with tasks", false, worker(func(k *impl.ServWorker) { k.Up = false })},
		{"down, without", true, worker(func(k *impl.ServWorker) { k.Up, k.Tasks = false, nil })},
	})
	allChanged(t, each("a term", 0, 1, func(w *impl.ServWorld, n int) { w.Workers[1].Terms[1] = n }))
	allChanged(t, each("a term of many", 0, 500, func(w *impl.ServWorld, n int) { w.Shards[1].Term, w.Workers[1].Terms[1] = 500, n }))
}

func TestTasksOk(t *testing.T) {
	put := func(list ...impl.HistEntry) func(w *impl.ServWorld) {
		return func(w *impl.ServWorld) { w.Workers[1].Tasks[1].Put = list }
	}
	entry := func(set func(e *impl.HistEntry)) func(w *impl.ServWorld) {
		return func(w *impl.ServWorld) {
			list := copyHist(w.Runs[0].Hist)
			set(&list[2])
			put(list...)(w)
		}
	}
	any := hist(t, "end 4 1 2 3 4|start|ask 9999 0-.- - 1|mark x|cancel|signal go -9999")
	allChanged(t, []servChange{
		{"nothing put", true, put()}, {"anything put", true, put(any...)},
		{"four hundred put", true, put(slices.Repeat(any[4:5], 400)...)}, {"four hundred and one put", false, put(slices.Repeat(any[4:5], 401)...)},
		{"as it was put", true, entry(func(e *impl.HistEntry) {})},
		{"put of no kind", false, entry(func(e *impl.HistEntry) { e.Kind = 10 })},
		{"put without a key", false, entry(func(e *impl.HistEntry) { e.Key = "" })},
		{"put by no id", false, entry(func(e *impl.HistEntry) { e.Id = 0 })},
		{"put with numbers too great", false, entry(func(e *impl.HistEntry) { e.Nums[0] = 10000 })},
	})
	task := func(what string, least, most int, set func(x *impl.ServTask, n int)) {
		allChanged(t, each(what, least, most, func(w *impl.ServWorld, n int) { set(&w.Workers[1].Tasks[1], n) }))
	}
	task("Run", 0, 3, func(x *impl.ServTask, n int) { x.Run = n })
	task("Chain", 0, 99, func(x *impl.ServTask, n int) { x.Chain = n })
	task("Term", 0, 9999, func(x *impl.ServTask, n int) { x.Term = n })
	task("Len", 0, 400, func(x *impl.ServTask, n int) { x.Len = n })
	task("Take", 0, 30, func(x *impl.ServTask, n int) { x.Take = n })
}

func TestEffectsAndTokensOk(t *testing.T) {
	effects := func(count int) func(w *impl.ServWorld) {
		return func(w *impl.ServWorld) {
			w.Effects = nil
			for i := range count {
				w.Effects = append(w.Effects, impl.ServEffect{Key: fmt.Sprintf("%03d", i), Tries: 1})
			}
		}
	}
	keyed := func(keys ...string) func(w *impl.ServWorld) {
		return func(w *impl.ServWorld) {
			w.Effects = nil
			for _, key := range keys {
				w.Effects = append(w.Effects, impl.ServEffect{Key: key, Tries: 1})
			}
		}
	}
	tokens := func(list ...int) func(w *impl.ServWorld) {
		return func(w *impl.ServWorld) { w.Tokens = list }
	}
	var many []int
	for i := range 61 {
		many = append(many, i-30)
	}
	allChanged(t, []servChange{
		{"no effects", true, effects(0)}, {"two hundred effects", true, effects(200)}, {"one more", false, effects(201)},
		{"any keys", true, keyed("\x00", " ", "A", "a", "a/", "a/b", "\xff")}, {"an empty key", false, keyed("")}, {"an empty key ahead", false, keyed("", "a")},
		{"a key twice", false, keyed("a", "a")}, {"keys out of order", false, keyed("b", "a")}, {"a longer one ahead", false, keyed("ab", "a")},
		{"no tokens", true, tokens()}, {"sixty tokens", true, tokens(many[:60]...)}, {"one more", false, tokens(many...)},
		{"any tokens", true, tokens(math.MinInt, -1, 0, 1, math.MaxInt)}, {"a token twice", false, tokens(1, 1)}, {"tokens out of order", false, tokens(2, 1)}, {"the ends out of order", false, tokens(math.MaxInt, math.MinInt)},
	})
	allChanged(t, each("Answer", -9999, 9999, func(w *impl.ServWorld, n int) { w.Effects[1].Answer = n }))
	allChanged(t, each("Tries of an effect", 1, 100000, func(w *impl.ServWorld, n int) { w.Effects[1].Tries = n }))
}

func TestShardsOfRuns(t *testing.T) {
	for shards := 1; shards <= 3; shards++ {
		w := opened(t, shards, 1, "workflow w|return 1")
		for _, name := range []string{"a", "b", "c", "ab", "zzzzzzzz", "x9"} {
			w = does(t, w, evBegin(name, 0), 0)
		}
		sums := []int{'a', 'a' + 'b', 'b', 'c', 'x' + '9', 8 * 'z'}
		for run, sum := range sums {
			if got := impl.ServShardOf(w, run); got != sum%shards {
				t.Errorf("%s of %d shards: %d", w.Runs[run].Name, shards, got)
			}
		}
		for _, run := range []int{-1, 6, math.MinInt, math.MaxInt} {
			if got := impl.ServShardOf(w, run); got != -1 {
				t.Errorf("%d of %d shards: %d", run, shards, got)
			}
		}
	}
}

func TestStatesOfRuns(t *testing.T) {
	w := fullWorld(t)
	for _, run := range []int{-1, 3, 4, math.MinInt, math.MaxInt} {
		if s, ok := impl.ServState(w, run); ok || shape(s) != shape(impl.RunState{}) {
			t.Errorf("%d: %v, %s", run, ok, shape(s))
		}
	}
	for run, want := range []string{"live 0|n 2|at :0|at 0:1|at 1:3|ask 1 0.0 pay 2|ask 2 1.0 time 5", "done 1", "live 0|n 3|at :0|at 0:1|at 1:3|ask 1 0.0 pay 3|ask 2 1.0 time 5"} {
		s, ok := impl.ServState(w, run)
		if !ok {
			t.Errorf("%d: no state", run)
		}
		boards(t, w.Flows[w.Runs[run].Flow], s, want)
		lieApart(t, spansOf("state", s), spansOfServ("world", w))
	}
}

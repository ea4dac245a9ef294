package tests

import (
	"fmt"
	"slices"
	"sort"
	"strings"

	"loop.example/dunlin/impl"
)

// between says whether all numbers are in a range.
func between(least, most int, nums ...int) bool {
	return !slices.ContainsFunc(nums, func(n int) bool { return n < least || n > most })
}

// rising says whether numbers, or texts, are ascending.
func rising[T any, K int | string](list []T, of func(T) K) bool {
	for i := range list {
		for j := range i {
			if of(list[j]) >= of(list[i]) {
				return false
			}
		}
	}
	return true
}

// worldOkBy is chapter 31 once more: what is not ok about a world; "", if it is.
func worldOkBy(w impl.ServWorld) string {
	if !between(0, 100000, w.Now) {
		return "now"
	}
	if !between(1, 4, len(w.Flows)) || slices.ContainsFunc(w.Flows, func(l []impl.FlowLine) bool { return impl.FlowCheck(l) != impl.FlowFault{} }) {
		return "flows"
	}
	if !between(1, 3, len(w.Shards), len(w.Workers)) {
		return "how many shards and workers"
	}
	for _, s := range w.Shards {
		held := s.Owner >= 0 && s.Owner < len(w.Workers) && between(1, 9999, s.Term)
		if !held && (s.Owner != -1 || s.Term != 0) || !between(0, 100004, s.Until) {
			return "shard"
		}
	}
	if len(w.Runs) > 6 || !rising(w.Runs, func(x impl.ServRun) string { return x.Name }) {
		return "runs"
	}
	for _, x := range w.Runs {
		if wrong := runOkBy(w, x); wrong != "" {
			return wrong
		}
	}
	for _, k := range w.Workers {
		if len(k.Terms) != len(w.Shards) || len(k.Tasks) > 6 || !k.Up && len(k.Tasks) > 0 {
			return "worker"
		}
		for i, term := range k.Terms {
			if !between(0, w.Shards[i].Term, term) {
				return "term"
			}
		}
		for _, x := range k.Tasks {
			if !between(0, len(w.Runs)-1, x.Run) || !between(0, 99, x.Chain) || !between(0, 9999, x.Term) || !between(0, 400, x.Len, len(x.Put)) || !between(0, 30, x.Take) || slices.ContainsFunc(x.Put, func(e impl.HistEntry) bool { return !entryOkBy(e) }) {
				return "task"
			}
		}
	}
	for _, x := range w.Effects {
		if x.Key == "" || !within(x.Answer) || !between(1, 100000, x.Tries) {
			return "effect"
		}
	}
	if len(w.Effects) > 200 || len(w.Tokens) > 60 || !rising(w.Effects, func(x impl.ServEffect) string { return x.Key }) || !rising(w.Tokens, func(n int) int { return n }) {
		return "effects and tokens"
	}
	return ""
}

func runOkBy(w impl.ServWorld, x impl.ServRun) string {
	if !nameForm.MatchString(x.Name) || !between(0, len(w.Flows)-1, x.Flow) || !between(0, 99, x.Chain) {
		return "run"
	}
	if len(x.Args) != len(w.Flows[x.Flow][0].Args) || !within(x.Args...) {
		return "args"
	}
	for _, h := range x.Inbox {
		id := between(1, 9999, h.Id)
		signals := nameForm.MatchString(h.Name) && within(h.Num)
		if !map[int]bool{1: id && within(h.Num), 2: id && within(h.Num), 3: id, 4: signals, 5: true}[h.Kind] {
			return "what is in an inbox"
		}
	}
	for _, y := range x.Tries {
		if !between(1, 9999, y.Id) || !between(1, 100000, y.Tries) || y.Next < 0 {
			return "try"
		}
	}
	for _, y := range x.Dues {
		if !between(1, 9999, y.Id) {
			return "due"
		}
	}
	if len(x.Inbox) > 30 || !rising(x.Tries, func(y impl.ServTry) int { return y.Id }) || !rising(x.Dues, func(y impl.ServDue) int { return y.Id }) {
		return "lists of a run"
	}
	if len(x.Hist) == 0 {
		return map[bool]string{true: "not begun"}[x.Closed || len(x.Tries)+len(x.Dues) > 0]
	}
	s, f := impl.HistReplay(w.Flows[x.Flow], x.Hist)
	return map[bool]string{true: "history"}[f.Code != 0 || x.Closed == (s.Stands == impl.RunLive)]
}

// stateBy is nothing for a run without a history.
func stateBy(w impl.ServWorld, run int) impl.RunState {
	s, _ := impl.HistReplay(w.Flows[w.Runs[run].Flow], w.Runs[run].Hist)
	return s
}

func shardBy(w impl.ServWorld, run int) int {
	sum := 0
	for _, b := range []byte(w.Runs[run].Name) {
		sum += int(b)
	}
	return sum % len(w.Shards)
}

// takesBy is what ServTakes tells of a run: Put, and Take.
func takesBy(w impl.ServWorld, run int) ([]impl.HistEntry, int) {
	x := w.Runs[run]
	if len(x.Hist) == 0 {
		return impl.HistOf(w.Flows[x.Flow], x.Args, nil, nil, 0), 0
	}
	codes := make([]int, len(x.Inbox))
	for i, h := range x.Inbox {
		var list []impl.HistEntry
		list, codes[i] = impl.HistMore(w.Flows[x.Flow], x.Hist, h)
		if codes[i] == 0 && !slices.Contains(codes[:i], 10) {
			return list[len(x.Hist):], i + 1
		}
	}
	if i := slices.Index(codes, 10); i >= 0 {
		return nil, i
	}
	return nil, len(codes)
}

// doBy is chapter 32 once more, by its words; w is ok, and becomes what comes.
func doBy(w impl.ServWorld, e impl.ServEvent) (impl.ServWorld, int) {
	w = copyServ(w)
	if !between(1, 12, e.Kind) {
		return w, 2
	}
	if slices.Contains([]int{5, 6, 7, 10, 11}, e.Kind) {
		if !between(0, len(w.Workers)-1, e.Who) {
			return w, 5
		}
		if e.Kind != 11 && !w.Workers[e.Who].Up {
			return w, 7
		}
	}
	isRun := between(0, len(w.Runs)-1, e.Run)
	var x *impl.ServRun
	if isRun {
		x = &w.Runs[e.Run]
	}
	// comes is ServCancels, with whatever comes.
	comes := func(h impl.RunHap) int {
		switch {
		case !isRun:
			return 5
		case x.Closed:
			return 6
		case len(x.Inbox) == 30:
			return 4
		}
		x.Inbox = append(x.Inbox, h)
		return 0
	}
	switch e.Kind {
	case impl.ServTicks:
		if w.Now == 100000 {
			return w, 4
		}
		w.Now++
	case impl.ServBegins:
		return w, beginsBy(&w, e)
	case impl.ServSignals:
		if !nameForm.MatchString(e.Name) || len(e.Nums) != 1 || !within(e.Nums...) {
			return w, 2
		}
		if slices.Contains(w.Tokens, e.Id) {
			return w, 0
		}
		full := len(w.Tokens) == 60
		if isRun {
			count := len(stateBy(w, e.Run).Box)
			for _, h := range x.Inbox {
				count += map[int]int{4: 1}[h.Kind]
			}
			full = full || count >= 20
		}
		if full {
			return w, 4
		}
		if code := comes(signal(e.Name, e.Nums[0])); code != 0 {
			return w, code
		}
		w.Tokens = append(w.Tokens, e.Id)
		slices.Sort(w.Tokens)
	case impl.ServCancels:
		return w, comes(cancel())
	case impl.ServLeases:
		return w, leasesBy(&w, e)
	case impl.ServTakes:
		k := &w.Workers[e.Who]
		switch {
		case !isRun:
			return w, 5
		case k.Terms[shardBy(w, e.Run)] == 0:
			return w, 7
		case x.Closed || len(x.Hist) > 0 && len(x.Inbox) == 0:
			return w, 6
		case len(k.Tasks) == 6:
			return w, 4
		}
		task := impl.ServTask{Run: e.Run, Chain: x.Chain, Term: k.Terms[shardBy(w, e.Run)], Len: len(x.Hist)}
		task.Put, task.Take = takesBy(w, e.Run)
		k.Tasks = append(k.Tasks, task)
	case impl.ServWrites:
		return w, writesBy(&w, e)
	case impl.ServTries:
		if !isRun {
			return w, 5
		}
		return w, triesBy(&w, e)
	case impl.ServFires:
		if !isRun {
			return w, 5
		}
		if !slices.ContainsFunc(x.Dues, func(d impl.ServDue) bool { return d.Id == e.Id && w.Now >= d.Tick }) {
			return w, 7
		}
		return w, comes(fired(e.Id))
	case impl.ServFalls:
		k := &w.Workers[e.Who]
		k.Up, k.Tasks = false, nil
		for i := range k.Terms {
			k.Terms[i] = 0
		}
	case impl.ServRises:
		w.Workers[e.Who].Up = true
	case impl.ServDeploys:
		if !between(0, len(w.Flows)-1, e.Id) {
			return w, 5
		}
		if impl.FlowCheck(e.Lines).Code != 0 || len(e.Lines[0].Args) != len(w.Flows[e.Id][0].Args) {
			return w, 2
		}
		for _, y := range w.Runs {
			if y.Flow == e.Id && len(y.Hist) > 0 {
				if _, f := impl.HistReplay(e.Lines, y.Hist); f.Code != 0 {
					return w, 9
				}
			}
		}
		w.Flows[e.Id] = deepCopy(e.Lines)
	}
	return w, 0
}

func beginsBy(w *impl.ServWorld, e impl.ServEvent) int {
	if !nameForm.MatchString(e.Name) || !between(0, len(w.Flows)-1, e.Id) || len(e.Nums) != len(w.Flows[e.Id][0].Args) || !within(e.Nums...) {
		return 2
	}
	if slices.ContainsFunc(w.Runs, func(x impl.ServRun) bool { return x.Name == e.Name }) {
		return 3
	}
	if len(w.Runs) == 6 {
		return 4
	}
	var names []string
	for _, x := range w.Runs {
		names = append(names, x.Name)
	}
	w.Runs = append(w.Runs, impl.ServRun{Name: e.Name, Flow: e.Id, Args: slices.Clone(e.Nums)})
	sort.Slice(w.Runs, func(i, j int) bool { return w.Runs[i].Name < w.Runs[j].Name })
	for _, k := range w.Workers {
		for i, task := range k.Tasks {
			k.Tasks[i].Run = slices.IndexFunc(w.Runs, func(x impl.ServRun) bool { return x.Name == names[task.Run] })
		}
	}
	return 0
}

func leasesBy(w *impl.ServWorld, e impl.ServEvent) int {
	if !between(0, len(w.Shards)-1, e.Id) {
		return 5
	}
	s, term := &w.Shards[e.Id], &w.Workers[e.Who].Terms[e.Id]
	holds := s.Owner == e.Who && *term == s.Term
	if !holds && s.Owner != -1 && w.Now <= s.Until {
		return 7
	}
	if !holds && s.Term == 9999 {
		return 4
	}
	if !holds {
		*term = s.Term + 1
	}
	*s = impl.ServShard{Owner: e.Who, Term: *term, Until: w.Now + 4}
	return 0
}

func writesBy(w *impl.ServWorld, e impl.ServEvent) int {
	k := &w.Workers[e.Who]
	if len(k.Tasks) == 0 {
		return 6
	}
	task := k.Tasks[0]
	k.Tasks = k.Tasks[1:]
	x := &w.Runs[task.Run]
	put, take := takesBy(*w, task.Run)
	if w.Shards[shardBy(*w, task.Run)].Term != task.Term || x.Chain != task.Chain || len(x.Hist) != task.Len || x.Closed || take != task.Take || histShape(put) != histShape(task.Put) {
		return 8
	}
	list := append(copyHist(x.Hist), put...)
	s, f := impl.HistReplay(w.Flows[x.Flow], list)
	if f.Code != 0 {
		return 8
	}
	x.Hist, x.Inbox = list, x.Inbox[take:]
	dues, tries := x.Dues, x.Tries
	x.Dues, x.Tries, x.Closed = nil, nil, s.Stands != 0
	for _, a := range s.Asks {
		due := impl.ServDue{Id: a.Id}
		if a.Name == "" {
			due.Tick = w.Now + a.Args[0]
			for _, d := range dues {
				if d.Id == a.Id {
					due = d
				}
			}
			x.Dues = append(x.Dues, due)
		}
		for _, y := range tries {
			if y.Id == a.Id {
				x.Tries = append(x.Tries, y)
			}
		}
	}
	if s.Stands != impl.RunAnew || x.Chain == 99 || len(s.Args) != len(w.Flows[x.Flow][0].Args) {
		return 0
	}
	anew := impl.ServRun{Name: x.Name, Flow: x.Flow, Args: s.Args, Chain: x.Chain + 1}
	for _, v := range s.Box {
		anew.Inbox = append(anew.Inbox, signal(v.Name, v.Num))
	}
	first := slices.IndexFunc(x.Inbox, func(h impl.RunHap) bool { return h.Kind == 5 })
	for i, h := range x.Inbox {
		if h.Kind == 4 || i == first {
			anew.Inbox = append(anew.Inbox, h)
		}
	}
	anew.Inbox = anew.Inbox[:min(30, len(anew.Inbox))]
	*x = anew
	return 0
}

func triesBy(w *impl.ServWorld, e impl.ServEvent) int {
	x := &w.Runs[e.Run]
	asks := stateBy(*w, e.Run).Asks
	asked := slices.IndexFunc(asks, func(a impl.RunAsk) bool { return a.Id == e.Id && a.Name != "" })
	if asked < 0 {
		return 5
	}
	try := slices.IndexFunc(x.Tries, func(y impl.ServTry) bool { return y.Id == e.Id })
	if try >= 0 && w.Now < x.Tries[try].Next {
		return 7
	}
	if try >= 0 && x.Tries[try].Tries == 100000 {
		return 4
	}
	key := fmt.Sprintf("%s/%d/%s", x.Name, x.Chain, asks[asked].Key)
	effect := slices.IndexFunc(w.Effects, func(y impl.ServEffect) bool { return y.Key == key })
	if effect < 0 && len(w.Effects) == 200 || effect >= 0 && w.Effects[effect].Tries == 100000 {
		return 4
	}
	answer := impl.RunAnswer(asks[asked])
	if effect < 0 {
		w.Effects = append(w.Effects, impl.ServEffect{Key: key, Answer: answer, Tries: 1})
		sort.Slice(w.Effects, func(i, j int) bool { return w.Effects[i].Key < w.Effects[j].Key })
	} else {
		answer = w.Effects[effect].Answer
		w.Effects[effect].Tries++
	}
	if try < 0 {
		x.Tries = append(x.Tries, impl.ServTry{Id: e.Id, Tries: 1, Next: w.Now + 3})
		sort.Slice(x.Tries, func(i, j int) bool { return x.Tries[i].Id < x.Tries[j].Id })
	} else {
		x.Tries[try].Tries++
		x.Tries[try].Next = w.Now + 3*x.Tries[try].Tries
	}
	if !e.Lost && len(x.Inbox) < 30 {
		x.Inbox = append(x.Inbox, done(e.Id, answer))
	}
	return 0
}

// calmBy is a calm round of chapter 33 once more: one thing behind the other.
func calmBy(w impl.ServWorld) impl.ServWorld {
	do := func(e impl.ServEvent) {
		w, _ = doBy(w, e)
	}
	do(evTick())
	each := func(then func(who int)) {
		for who := range w.Workers {
			if w.Workers[who].Up {
				then(who)
			}
		}
	}
	each(func(who int) {
		for shard := range w.Shards {
			do(evLease(who, shard))
		}
	})
	each(func(who int) {
		for run := range w.Runs {
			for _, a := range stateBy(w, run).Asks {
				if a.Name == "" {
					do(evFire(run, a.Id))
				} else {
					do(evTry(run, a.Id))
				}
			}
			for range 3 {
				do(evTake(who, run))
				do(evWrite(who))
			}
		}
	})
	return w
}

// safeBy is chapter 33 once more, of a world that is ok.
func safeBy(w impl.ServWorld) bool {
	for i, s := range w.Shards {
		count := 0
		for _, k := range w.Workers {
			if s.Term > 0 && k.Terms[i] == s.Term {
				count++
			}
		}
		if count > 1 {
			return false
		}
	}
	answers := map[string]int{}
	for _, x := range w.Effects {
		answers[x.Key] = x.Answer
	}
	for _, x := range w.Runs {
		keys := map[int]string{}
		for _, e := range x.Hist {
			if e.Kind == impl.EntAsk {
				keys[e.Id] = fmt.Sprintf("%s/%d/%s", x.Name, x.Chain, e.Key)
			}
			if answer, there := answers[keys[e.Id]]; e.Kind == impl.EntDone && (!there || answer != e.Nums[0]) {
				return false
			}
		}
	}
	return true
}

// boardBy is chapter 33 once more, of a world that is ok.
func boardBy(w impl.ServWorld) string {
	var b strings.Builder
	fmt.Fprintf(&b, "now %d\n", w.Now)
	for _, s := range w.Shards {
		fmt.Fprintf(&b, "shard %d term %d until %d\n", s.Owner, s.Term, s.Until)
	}
	for i, x := range w.Runs {
		s := stateBy(w, i)
		stands := strings.Fields("live done failed anew stopped")[s.Stands]
		fmt.Fprintf(&b, "%s/%d %s %d, %d written, %d waiting\n", x.Name, x.Chain, stands, s.Result, len(x.Hist), len(x.Inbox))
	}
	for _, x := range w.Effects {
		fmt.Fprintf(&b, "%s %d, tried %d\n", x.Key, x.Answer, x.Tries)
	}
	return b.String()
}

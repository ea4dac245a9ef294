package tests

import (
	"fmt"
	"slices"
	"sort"
	"strings"

	"loop.example/dunlin/impl"
)

// regOkBy is chapter 61 once more: what is not ok about a world of regions; "", if it is.
func regOkBy(w impl.RegWorld) string {
	if !between(1, 4, len(w.Flows)) || slices.ContainsFunc(w.Flows, func(lines []impl.FlowLine) bool { return impl.FlowCheck(lines).Code != 0 }) {
		return "flows"
	}
	if len(w.Sites) != 2 {
		return "sites"
	}
	for _, s := range w.Sites {
		if wrong := siteOkBy(w.Flows, s); wrong != "" {
			return wrong
		}
	}
	if len(w.Radio) > 6 {
		return "radio"
	}
	for _, word := range w.Radio {
		if !between(0, 1, word.To) {
			return "to"
		}
		if wrong := siteOkBy(w.Flows, word.Site); wrong != "" {
			return "word: " + wrong
		}
	}
	if len(w.Effects) > 200 || !rising(w.Effects, func(e impl.RegEffect) string { return e.Key }) {
		return "effects"
	}
	for _, e := range w.Effects {
		if e.Key == "" || !within(e.Answer) || !between(1, 9999, e.Tries) {
			return "effect"
		}
	}
	if !isTokenList(w.Answered) {
		return "answered"
	}
	return ""
}

func isTokenList(list []int) bool {
	sorted := append([]int{0}, list...)
	slices.Sort(sorted)
	return len(list) <= 40 && sorted[0] == 0 && rising(sorted, func(n int) int { return n })
}

func fitsBy(flows [][]impl.FlowLine, flow int, args []int) bool {
	return between(0, len(flows)-1, flow) && len(args) == len(flows[flow][0].Args) && within(args...)
}

func siteOkBy(flows [][]impl.FlowLine, s impl.RegSite) string {
	switch {
	case !between(0, 9999, s.Term):
		return "term"
	case len(s.Runs) > 4 || !rising(s.Runs, func(x impl.RegRun) string { return x.Name }):
		return "runs"
	case len(s.Back) > 44:
		return "back"
	case s.Leads && len(s.Back) > 0:
		return "leads, with back"
	case !isTokenList(s.Late):
		return "late"
	}
	for _, x := range s.Runs {
		if wrong := regRunOkBy(flows, x); wrong != "" {
			return wrong
		}
	}
	for _, b := range s.Back {
		begins := b.Token == 0 && fitsBy(flows, b.Flow, b.Args) && b.Name == "" && b.Num == 0
		signals := b.Token > 0 && nameForm.MatchString(b.Name) && within(b.Num) && b.Flow == 0 && len(b.Args) == 0
		if !nameForm.MatchString(b.Run) || !begins && !signals {
			return "what is back"
		}
	}
	return ""
}

func regRunOkBy(flows [][]impl.FlowLine, x impl.RegRun) string {
	if !nameForm.MatchString(x.Name) {
		return "name"
	}
	if !fitsBy(flows, x.Flow, x.Args) {
		return "fits"
	}
	if !isTokenList(x.Tokens) {
		return "tokens"
	}
	if _, f := impl.HistReplay(flows[x.Flow], x.Hist); f.Code != 0 {
		return "history"
	}
	if !slices.Equal(x.Hist[0].Nums, x.Args) {
		return "args"
	}
	if strings.Count("|"+rowsBy(x.Hist), "|signal ") != len(x.Tokens) {
		return "how many tokens"
	}
	return ""
}

func regRunBy(s *impl.RegSite, name string) *impl.RegRun {
	for i := range s.Runs {
		if s.Runs[i].Name == name {
			return &s.Runs[i]
		}
	}
	return nil
}

// tokensBy are those that are known at a site, as often as they are there.
func tokensBy(s impl.RegSite) []int {
	list := slices.Clone(s.Late)
	for _, x := range s.Runs {
		list = append(list, x.Tokens...)
	}
	return list
}

func regStateBy(w impl.RegWorld, site int, run string) impl.RunState {
	x := regRunBy(&w.Sites[site], run)
	s, _ := impl.HistReplay(w.Flows[x.Flow], x.Hist)
	return s
}

// regDoBy is chapter 62 once more, by its words; w is ok, and becomes what comes.
func regDoBy(w impl.RegWorld, e impl.RegEvent) (impl.RegWorld, int) {
	w = copyReg(w)
	if !between(1, 10, e.Kind) {
		return w, 2
	}
	if e.Kind == impl.RegBrings || e.Kind == impl.RegLoses {
		if !between(0, len(w.Radio)-1, e.Id) {
			return w, 5
		}
		word := w.Radio[e.Id]
		if e.Kind == impl.RegLoses || !e.Keep {
			w.Radio = append(w.Radio[:e.Id:e.Id], w.Radio[e.Id+1:]...)
		}
		if e.Kind == impl.RegBrings && w.Sites[word.To].Up {
			hearBy(w.Flows, &w.Sites[word.To], copySite(word.Site))
		}
		return w, 0
	}
	if !between(0, 1, e.Site) {
		return w, 5
	}
	s := &w.Sites[e.Site]
	if e.Kind != impl.RegRises && !s.Up || e.Kind <= impl.RegFires && !s.Leads {
		return w, 7
	}
	x := regRunBy(s, e.Run)
	if between(2, 4, e.Kind) && x == nil {
		return w, 5
	}
	switch e.Kind {
	case impl.RegBegins:
		if !nameForm.MatchString(e.Run) || !fitsBy(w.Flows, e.Id, e.Nums) {
			return w, 2
		}
		return w, regBeginBy(w.Flows, s, e.Run, e.Id, e.Nums)
	case impl.RegSignals:
		return w, regSignalBy(&w, s, e)
	case impl.RegTries:
		return w, regTryBy(&w, x, e)
	case impl.RegFires:
		list, code := impl.HistMore(w.Flows[x.Flow], x.Hist, fired(e.Id))
		if code == 0 {
			x.Hist = list
		}
		return w, code
	case impl.RegTakes:
		term := s.Term + 1 + (s.Term+1+e.Site)%2
		if s.Leads {
			return w, 6
		}
		if term > 9999 {
			return w, 4
		}
		back := s.Back
		s.Term, s.Leads, s.Back = term, true, nil
		regTakeBackBy(w.Flows, s, back)
	case impl.RegSends:
		if len(w.Radio) == 6 {
			return w, 4
		}
		w.Radio = append(w.Radio, impl.RegWord{To: 1 - e.Site, Site: copySite(*s)})
	case impl.RegFalls:
		s.Up = false
	case impl.RegRises:
		s.Up = true
	}
	return w, 0
}

func regBeginBy(flows [][]impl.FlowLine, s *impl.RegSite, run string, flow int, args []int) int {
	if regRunBy(s, run) != nil {
		return 3
	}
	if len(s.Runs) == 4 {
		return 4
	}
	s.Runs = append(s.Runs, impl.RegRun{Name: run, Flow: flow, Args: slices.Clone(args), Hist: impl.HistOf(flows[flow], args, nil, nil, 0)})
	sort.Slice(s.Runs, func(i, j int) bool { return s.Runs[i].Name < s.Runs[j].Name })
	return 0
}

func regSignalBy(w *impl.RegWorld, s *impl.RegSite, e impl.RegEvent) int {
	switch {
	case e.Id < 1 || !nameForm.MatchString(e.Name) || len(e.Nums) != 1 || !within(e.Nums...):
		return 2
	case slices.Contains(w.Answered, e.Id):
		return 6
	case len(w.Answered) == 40:
		return 4
	}
	if code := tokenBy(w.Flows, s, e.Run, e.Id, e.Name, e.Nums[0]); code != 0 {
		return code
	}
	w.Answered = append(w.Answered, e.Id)
	return 0
}

// tokenBy is a signal without what was answered.
func tokenBy(flows [][]impl.FlowLine, s *impl.RegSite, run string, token int, name string, num int) int {
	x := regRunBy(s, run)
	switch {
	case x == nil:
		return 5
	case slices.Contains(x.Tokens, token):
		return 0
	case len(x.Tokens) == 40:
		return 4
	}
	list, code := impl.HistMore(flows[x.Flow], x.Hist, signal(name, num))
	if code == 0 {
		x.Hist, x.Tokens = list, append(slices.Clone(x.Tokens), token)
	}
	return code
}

func regTryBy(w *impl.RegWorld, x *impl.RegRun, e impl.RegEvent) int {
	s, _ := impl.HistReplay(w.Flows[x.Flow], x.Hist)
	i := slices.IndexFunc(s.Asks, func(a impl.RunAsk) bool { return a.Id == e.Id && a.Name != "" })
	if i < 0 {
		return 5
	}
	key := x.Name + "/" + s.Asks[i].Key
	at := slices.IndexFunc(w.Effects, func(o impl.RegEffect) bool { return o.Key == key })
	if at >= 0 && w.Effects[at].Tries == 9999 || at < 0 && len(w.Effects) == 200 {
		return 4
	}
	effect := impl.RegEffect{Key: key, Answer: impl.RunAnswer(s.Asks[i])}
	if at >= 0 {
		effect = w.Effects[at]
	}
	effect.Tries++
	list, code := impl.HistMore(w.Flows[x.Flow], x.Hist, done(e.Id, effect.Answer))
	if code != 0 {
		return code
	}
	x.Hist = list
	if at >= 0 {
		w.Effects[at] = effect
		return 0
	}
	w.Effects = append(w.Effects, effect)
	sort.Slice(w.Effects, func(i, j int) bool { return w.Effects[i].Key < w.Effects[j].Key })
	return 0
}

func regTakeBackBy(flows [][]impl.FlowLine, s *impl.RegSite, list []impl.RegBack) {
	for _, b := range list {
		if b.Token == 0 {
			regBeginBy(flows, s, b.Run, b.Flow, b.Args)
		} else if !slices.Contains(tokensBy(*s), b.Token) && tokenBy(flows, s, b.Run, b.Token, b.Name, b.Num) != 0 && len(s.Late) < 40 {
			s.Late = append(s.Late, b.Token)
		}
	}
}

// entriesBy is how many entries the histories and Late have.
func entriesBy(s impl.RegSite) int {
	text := ""
	for _, x := range s.Runs {
		text += "|" + rowsBy(x.Hist)
	}
	return strings.Count(text, "|") + len(s.Late)
}

func followsBy(s, heard impl.RegSite) bool {
	same := heard.Term == s.Term && !s.Leads && entriesBy(heard) >= entriesBy(s)
	return heard.Leads && (heard.Term > s.Term || same)
}

// mayGiveBy is all that a site may have to give back, known or not, with what comes again.
func mayGiveBy(s impl.RegSite) []impl.RegBack {
	list := slices.Clone(s.Back)
	for _, x := range s.Runs {
		list = append(list, impl.RegBack{Run: x.Name, Flow: x.Flow, Args: slices.Clone(x.Args)})
		tokens := x.Tokens
		for _, e := range x.Hist {
			if e.Kind == impl.EntSignal {
				list = append(list, impl.RegBack{Run: x.Name, Token: tokens[0], Name: e.Name, Num: e.Nums[0]})
				tokens = tokens[1:]
			}
		}
	}
	return list
}

// hearBy is of a site that is up; what is heard may be kept.
func hearBy(flows [][]impl.FlowLine, s *impl.RegSite, heard impl.RegSite) {
	if !followsBy(*s, heard) {
		if s.Leads {
			regTakeBackBy(flows, s, heard.Back)
		}
		return
	}
	may := mayGiveBy(*s)
	*s = impl.RegSite{Up: true, Term: heard.Term, Runs: heard.Runs, Late: heard.Late}
	for _, b := range may {
		knows := slices.Contains(tokensBy(heard), b.Token)
		if b.Token == 0 {
			knows = regRunBy(&heard, b.Run) != nil
		}
		again := slices.ContainsFunc(s.Back, func(o impl.RegBack) bool { return o.Run == b.Run && o.Token == b.Token })
		if !knows && !again && len(s.Back) < 44 {
			s.Back = append(s.Back, b)
		}
	}
}

// leaderBy is the site that goes on with runs in a calm round; -1, if none leads.
func leaderBy(w impl.RegWorld) int {
	a, b := w.Sites[0], w.Sites[1]
	switch {
	case b.Leads && (!a.Leads || b.Term >= a.Term):
		return 1
	case a.Leads:
		return 0
	}
	return -1
}

// regCalmBy is a calm round of chapter 63 once more: one thing behind the other.
func regCalmBy(w impl.RegWorld) impl.RegWorld {
	steps := regCalmSteps(w)
	return steps[len(steps)-1]
}

// regCalmSteps are the world behind each thing that happens in a calm round.
func regCalmSteps(w impl.RegWorld) []impl.RegWorld {
	var steps []impl.RegWorld
	occur := func(e impl.RegEvent) {
		w, _ = regDoBy(w, e)
		steps = append(steps, w)
	}
	bring := func() {
		for len(w.Radio) > 0 {
			occur(regBring(0))
		}
	}
	occur(regRise(0))
	occur(regRise(1))
	if leaderBy(w) < 0 && w.Sites[1].Term > w.Sites[0].Term {
		occur(regTake(1))
	} else if leaderBy(w) < 0 {
		occur(regTake(0))
	}
	bring()
	if leader := leaderBy(w); leader >= 0 {
		for _, x := range w.Sites[leader].Runs {
			s, _ := impl.HistReplay(w.Flows[x.Flow], x.Hist)
			for _, a := range s.Asks {
				if a.Name == "" {
					occur(regFire(leader, x.Name, a.Id))
				} else {
					occur(regTry(leader, x.Name, a.Id))
				}
			}
		}
	}
	occur(regSend(0))
	occur(regSend(1))
	bring()
	return steps
}

// regSafeBy is chapter 63 once more, of a world that is ok.
func regSafeBy(w impl.RegWorld) bool {
	if w.Sites[0].Leads && w.Sites[1].Leads && w.Sites[0].Term == w.Sites[1].Term {
		return false
	}
	answers := map[string]int{}
	for _, e := range w.Effects {
		answers[e.Key] = e.Answer
	}
	remembered := map[int]bool{}
	for _, s := range w.Sites {
		for _, token := range tokensBy(s) {
			remembered[token] = true
		}
		for _, b := range s.Back {
			remembered[b.Token] = true
		}
		for _, x := range s.Runs {
			asked := map[int]string{}
			for _, e := range x.Hist {
				if e.Kind == impl.EntAsk {
					asked[e.Id] = x.Name + "/" + e.Key
				}
				if answer, is := answers[asked[e.Id]]; e.Kind == impl.EntDone && (!is || answer != e.Nums[0]) {
					return false
				}
			}
		}
	}
	return !slices.ContainsFunc(w.Answered, func(token int) bool { return !remembered[token] })
}

// regOneBy is chapter 63 once more, of a world that is ok: but for Up and Leads both sites are the same, with nothing to give back.
func regOneBy(w impl.RegWorld) bool {
	a, b := w.Sites[0], w.Sites[1]
	oneLeads := a.Leads != b.Leads
	a.Up, a.Leads, b.Up, b.Leads = true, true, true, true
	return oneLeads && len(a.Back) == 0 && sameSite(a, b)
}

// regBoardBy is chapter 63 once more, of a world that is ok.
func regBoardBy(w impl.RegWorld) string {
	var text strings.Builder
	for i, s := range w.Sites {
		fmt.Fprintf(&text, "site %d term %d", i, s.Term)
		if s.Leads {
			text.WriteString(" leads")
		}
		if !s.Up {
			text.WriteString(" down")
		}
		fmt.Fprintf(&text, ", %d back, %d late\n", len(s.Back), len(s.Late))
		for _, x := range s.Runs {
			state := regStateBy(w, i, x.Name)
			fmt.Fprintf(&text, "  %s %s %d, %d written, tokens", x.Name, strings.Fields("live done failed anew stopped")[state.Stands], state.Result, len(x.Hist))
			for _, token := range x.Tokens {
				fmt.Fprintf(&text, " %d", token)
			}
			text.WriteString("\n")
		}
	}
	for _, e := range w.Effects {
		fmt.Fprintf(&text, "%s %d, tried %d\n", e.Key, e.Answer, e.Tries)
	}
	return text.String()
}

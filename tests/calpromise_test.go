package tests

import (
	"math/rand"
	"slices"
	"strings"
	"testing"

	"loop.example/dunlin/impl"
)

// The next time of a calendar is really the next one, and those that are counted are just those that are due.
func TestNextTimes(t *testing.T) {
	t.Parallel()
	r := rand.New(rand.NewSource(61))
	seen := map[string]int{}
	for range 800 {
		rules := anyCal(r)
		calAlike(t, rules, 20)
		dues := duesBy(rules)
		nextWalk(t, r, rules)
		lefts := 0
		for _, one := range rules {
			bare := ticksBy(rule(one.Every, one.At, one.From, one.To))
			for _, n := range one.But {
				if !slices.Contains(bare, n) {
					seen["none of a rule's left out"]++
				} else if slices.Contains(dues, n) {
					seen["left out, and due by another"]++
				} else {
					lefts++
				}
			}
			if n := len(bare); n > 1 && slices.Contains(one.But, bare[n-1]) && slices.Contains(one.But, bare[n-2]) {
				seen["the last two left out"]++
			}
		}
		if lefts > 3 {
			seen["much left out"]++
		}
		if len(dues) == 0 {
			seen["nothing due"]++
		}
	}
	for _, what := range []string{"none of a rule's left out", "left out, and due by another", "the last two left out", "much left out", "nothing due"} {
		if seen[what] < 20 {
			t.Errorf("too little of what was to be seen: %v", seen)
		}
	}
}

// nextWalk goes from tick to next tick with what the program itself says.
func nextWalk(t *testing.T, r *rand.Rand, rules []impl.CalRule) {
	t.Helper()
	from := r.Intn(1000) - 100
	tick, steps := from, 0
	for steps < 40 {
		next := impl.CalNext(rules, tick)
		if next == -1 {
			break
		}
		if next <= tick || !impl.CalDue(rules, next) {
			t.Fatalf("%s: behind %d comes %d, due: %v", calShape(rules), tick, next, impl.CalDue(rules, next))
		}
		for n := tick + 1; n < next && n < tick+300; n++ {
			if impl.CalDue(rules, n) {
				t.Fatalf("%s: behind %d comes %d, but %d is due", calShape(rules), tick, next, n)
			}
		}
		tick = next
		steps++
	}
	if n := impl.CalCount(rules, from, tick); n != steps {
		t.Fatalf("%s: above %d, up to %d: %d, asked for %d", calShape(rules), from, tick, n, steps)
	}
	if middle := from + (tick-from)/2; impl.CalCount(rules, from, middle)+impl.CalCount(rules, middle, tick) != steps {
		t.Fatalf("%s: %d to %d is not what is counted up to %d, and then on", calShape(rules), from, tick, middle)
	}
}

// A calendar is written, and read again, without a change; what is not ok is not.
func TestCalendarsThereAndBack(t *testing.T) {
	t.Parallel()
	r := rand.New(rand.NewSource(62))
	right, wrong := 0, 0
	for range 3000 {
		rules := anyCal(r)
		if r.Intn(2) == 0 {
			rules = spoilCal(r, rules)
		}
		text := impl.CalWrite(rules)
		if text != calTextBy(rules) {
			t.Fatalf("%s is written %q, asked for %q", calShape(rules), text, calTextBy(rules))
		}
		if !calOkBy(rules) {
			calNone(t, "spoilt", rules)
			wrong++
			continue
		}
		right++
		if back, ok := impl.CalRead(text); !ok || calShape(back) != calShape(rules) {
			t.Fatalf("%q is read %v, %s", text, ok, calShape(back))
		}
	}
	if right < 1000 || wrong < 300 {
		t.Errorf("%d were right, %d wrong", right, wrong)
	}
}

// spoilCalText changes a text here and there; it may be one of a calendar all the same.
func spoilCalText(r *rand.Rand, text string) string {
	for range 1 + r.Intn(2) {
		i := r.Intn(len(text) + 1)
		j := min(len(text), i+r.Intn(4))
		more := []string{"", " ", "\n", "0", "1", "9", "-", "but", " but", " 5", "every ", "\xff", "x", "100000", " 99999"}[r.Intn(15)]
		switch r.Intn(3) {
		case 0:
			text = text[:i] + more + text[i:]
		case 1:
			text = text[:i] + more + text[j:]
		case 2:
			words := strings.SplitAfter(text, " ")
			k := r.Intn(len(words))
			text = strings.Join(slices.Concat(words[:k], []string{more}, words[k+1:]), "")
		}
	}
	return text
}

// What is read is written so, and nothing else is read.
func TestAnyTextsOfCalendars(t *testing.T) {
	t.Parallel()
	r := rand.New(rand.NewSource(63))
	read := 0
	var texts []string
	for range 200 {
		texts = append(texts, calTextBy(anyCal(r)))
	}
	for range 40000 {
		if calAsBy(t, spoilCalText(r, texts[r.Intn(200)])) {
			read++
		}
		if t.Failed() {
			return
		}
	}
	if read < 1000 || read > 39000 {
		t.Errorf("%d were read", read)
	}
}

func TestCalendarsAskedAtOnce(t *testing.T) {
	text := "every 5 at 2 from 0 to 40 but 12\nevery 20 at 0 from 10 to 100\n"
	askedAtOnce(t, text, func() string {
		rules, _ := impl.CalRead(text)
		for tick := impl.CalNext(rules, -1); tick >= 0; tick = impl.CalNext(rules, tick) {
			if !impl.CalDue(rules, tick) {
				return "not due"
			}
		}
		return impl.CalWrite(rules)
	})
}

func FuzzCalRead(f *testing.F) {
	f.Add("every 5 at 2 from 0 to 40 but 12\nevery 20 at 0 from 10 to 100\n")
	f.Add(strings.Repeat(longestRule, 4))
	for _, text := range wrongCals() {
		f.Add(text)
	}
	f.Fuzz(func(t *testing.T, text string) {
		if calAsBy(t, text) {
			rules, _ := impl.CalRead(text)
			calAlike(t, rules, 10)
		}
	})
}

package tests

import (
	"fmt"
	"math"
	"math/rand"
	"regexp"
	"slices"
	"strconv"
	"strings"
	"testing"

	"loop.example/dunlin/impl"
)

func rule(every, at, from, to int, but ...int) impl.CalRule {
	return impl.CalRule{Every: every, At: at, From: from, To: to, But: but}
}

func cal(rules ...impl.CalRule) []impl.CalRule {
	return rules
}

func calShape(rules []impl.CalRule) string {
	var rows []string
	for _, r := range rules {
		rows = append(rows, fmt.Sprint(r.Every, " ", r.At, " ", r.From, " ", r.To, " ", r.But))
	}
	return strings.Join(rows, "|")
}

func copyCal(rules []impl.CalRule) []impl.CalRule {
	rules = slices.Clone(rules)
	for i := range rules {
		rules[i].But = slices.Clone(rules[i].But)
	}
	return rules
}

func roomyCal(rules []impl.CalRule) []impl.CalRule {
	rules = copyCal(rules)
	for i := range rules {
		rules[i].But = roomy(rules[i].But, 77)
	}
	return roomy(rules, rule(7, 7, 7, 7))
}

// wholeCal is rules with all that lies behind the ends of their lists.
func wholeCal(rules []impl.CalRule) string {
	rules = slices.Clone(rules[:cap(rules)])
	for i, r := range rules {
		rules[i].But = r.But[:cap(r.But)]
	}
	return calShape(rules)
}

func spansOfCal(what string, rules []impl.CalRule) []span {
	all := spanOf(what, rules)
	for i, r := range rules[:cap(rules)] {
		all = append(all, spanOf(fmt.Sprintf("%s.%d.But", what, i), r.But)...)
	}
	return all
}

// calOkBy is chapter 41 once more.
func calOkBy(rules []impl.CalRule) bool {
	for _, r := range rules {
		if r.Every < 1 || r.Every > 1000 || r.At < 0 || r.At >= r.Every || r.From < 0 || r.From > r.To || r.To > 100000 || len(r.But) > 8 {
			return false
		}
		for i, n := range r.But {
			if n < 0 || n > 100000 || i > 0 && r.But[i-1] >= n {
				return false
			}
		}
	}
	return len(rules) >= 1 && len(rules) <= 4
}

// ticksBy are all of a rule's, counted from its At on.
func ticksBy(one impl.CalRule) []int {
	var list []int
	for n := one.At; n <= one.To; n += one.Every {
		if n >= one.From && !slices.Contains(one.But, n) {
			list = append(list, n)
		}
	}
	return list
}

// duesBy are all ticks that are due.
func duesBy(rules []impl.CalRule) []int {
	var list []int
	if !calOkBy(rules) {
		return nil
	}
	for _, one := range rules {
		list = append(list, ticksBy(one)...)
	}
	slices.Sort(list)
	return slices.Compact(list)
}

// placeBy is how many of ticks are not above one.
func placeBy(dues []int, tick int) int {
	place, has := slices.BinarySearch(dues, tick)
	if has {
		place++
	}
	return place
}

func nextBy(dues []int, tick int) int {
	if place := placeBy(dues, tick); place < len(dues) {
		return dues[place]
	}
	return -1
}

func countBy(dues []int, from, to int) int {
	return max(0, placeBy(dues, to)-placeBy(dues, from))
}

func calTextBy(rules []impl.CalRule) string {
	text := ""
	if !calOkBy(rules) {
		return text
	}
	for _, r := range rules {
		text += fmt.Sprintf("every %d at %d from %d to %d", r.Every, r.At, r.From, r.To)
		if len(r.But) > 0 {
			text += " but " + strings.Trim(fmt.Sprint(r.But), "[]")
		}
		text += "\n"
	}
	return text
}

var calForm = regexp.MustCompile(`^every (0|[1-9][0-9]*) at (0|[1-9][0-9]*) from (0|[1-9][0-9]*) to (0|[1-9][0-9]*)(?: but((?: (?:0|[1-9][0-9]*))+))?$`)

// calReadBy goes by the form of a line.
func calReadBy(text string) ([]impl.CalRule, bool) {
	rest, ended := strings.CutSuffix(text, "\n")
	if !ended || len(text) > 800 {
		return nil, false
	}
	var rules []impl.CalRule
	for _, line := range strings.Split(rest, "\n") {
		parts := calForm.FindStringSubmatch(line)
		if parts == nil {
			return nil, false
		}
		var nums []int
		for _, word := range append(parts[1:5], strings.Fields(parts[5])...) {
			num, err := strconv.Atoi(word)
			if err != nil {
				return nil, false
			}
			nums = append(nums, num)
		}
		rules = append(rules, rule(nums[0], nums[1], nums[2], nums[3], nums[4:]...))
	}
	return rules, calOkBy(rules)
}

// farTicks are none of any calendar; those below 0 are below all of them.
var farTicks = []int{math.MinInt, math.MinInt + 1, -1 << 40, -100001, -1000, -2, -1, 100001, 100002, 1 << 40, math.MaxInt - 1, math.MaxInt}

// nearTicks are those of a calendar, those beside them, and the ends of rules, as many as there is room for.
func nearTicks(rules []impl.CalRule, dues []int, most int) []int {
	near := []int{-1, 0, 1, 99999, 100000, 100001}
	for _, r := range rules {
		for _, n := range append([]int{r.From, r.To}, r.But...) {
			near = append(near, n-1, n, n+1)
		}
	}
	for i := 0; i < len(dues); i += 1 + len(dues)/most {
		near = append(near, dues[i]-1, dues[i], dues[i]+1)
	}
	slices.Sort(near)
	return slices.Compact(near)
}

// calAlike asks a calendar at ticks near and far, and holds it against the second reckoning, whether it is ok or not.
func calAlike(t *testing.T, rules []impl.CalRule, most int) {
	t.Helper()
	kept := calShape(rules)
	if ok := impl.CalOk(rules); ok != calOkBy(rules) {
		t.Fatalf("%s: ok %v", kept, ok)
	}
	dues := duesBy(rules)
	ticks := append(nearTicks(rules, dues, most), farTicks...)
	for i, tick := range ticks {
		_, due := slices.BinarySearch(dues, tick)
		if got := impl.CalDue(rules, tick); got != due {
			t.Fatalf("%s: %d is due: %v", kept, tick, got)
		}
		if got := impl.CalNext(rules, tick); got != nextBy(dues, tick) {
			t.Fatalf("%s: behind %d comes %d, asked for %d", kept, tick, got, nextBy(dues, tick))
		}
		for _, to := range []int{tick, ticks[(i+1)%len(ticks)], ticks[i*7%len(ticks)], ticks[(i+len(ticks)-3)%len(ticks)]} {
			if got := impl.CalCount(rules, tick, to); got != countBy(dues, tick, to) {
				t.Fatalf("%s: above %d, up to %d: %d, asked for %d", kept, tick, to, got, countBy(dues, tick, to))
			}
		}
	}
	if calShape(rules) != kept {
		t.Fatalf("%s was changed to %s", kept, calShape(rules))
	}
}

// calNone asks for what each function answers to rules that are not ok.
func calNone(t *testing.T, what string, rules []impl.CalRule) {
	t.Helper()
	if impl.CalOk(rules) || impl.CalWrite(rules) != "" {
		t.Errorf("%s: %s is ok, or written: %q", what, calShape(rules), impl.CalWrite(rules))
	}
	for _, tick := range append([]int{0, 1, 2, 5, 10, 12, 40, 99999, 100000}, farTicks...) {
		if impl.CalDue(rules, tick) || impl.CalNext(rules, tick) != -1 {
			t.Errorf("%s: %s at %d: %v, %d", what, calShape(rules), tick, impl.CalDue(rules, tick), impl.CalNext(rules, tick))
		}
		for _, to := range []int{math.MinInt, 100, math.MaxInt} {
			if n := impl.CalCount(rules, tick, to); n != 0 {
				t.Errorf("%s: %s from %d to %d: %d", what, calShape(rules), tick, to, n)
			}
		}
	}
}

// anyRule leaves out ticks of its own, often one behind the other, and some that are none.
func anyRule(r *rand.Rand) impl.CalRule {
	every := []int{1, 2, 3, 4, 5, 7, 12, 20, 100, 999, 1000}[r.Intn(11)]
	at := []int{0, every - 1, r.Intn(every)}[r.Intn(3)]
	from := []int{0, r.Intn(50), r.Intn(1000), r.Intn(100001)}[r.Intn(4)]
	to := []int{from, from + r.Intn(3), from + r.Intn(60), from + r.Intn(60), from + 50*r.Intn(every+1), from + r.Intn(100001)}[r.Intn(6)]
	one := rule(every, at, from, min(to, 100000))
	dues := ticksBy(one)
	for len(dues) > 0 && len(one.But) < 8 && r.Intn(5) > 0 {
		first := []int{0, max(0, len(dues)-3), r.Intn(len(dues))}[r.Intn(3)]
		one.But = append(one.But, dues[first:min(len(dues), first+1+r.Intn(4))]...)
	}
	for r.Intn(3) == 0 {
		one.But = append(one.But, []int{r.Intn(100001), max(0, from-1), min(100000, from+1), 0, 100000}[r.Intn(5)])
	}
	slices.Sort(one.But)
	one.But = slices.Compact(one.But)
	one.But = one.But[:min(8, len(one.But))]
	return one
}

// anyCal has rules that lie apart, between each other, and on each other.
func anyCal(r *rand.Rand) []impl.CalRule {
	var rules []impl.CalRule
	for range 1 + r.Intn(4) {
		one := anyRule(r)
		if len(rules) > 0 && r.Intn(3) == 0 {
			one.Every, one.At = rules[0].Every, rules[0].At
		}
		if len(rules) > 0 && r.Intn(3) == 0 {
			one.From, one.To = rules[0].From, rules[0].To
		}
		rules = append(rules, one)
	}
	return rules
}

// spoilCal changes a thing of rules; often they are ok all the same.
func spoilCal(r *rand.Rand, rules []impl.CalRule) []impl.CalRule {
	rules = copyCal(rules)
	i := r.Intn(len(rules))
	num := []int{-1, 0, 1, 2, 8, 999, 1000, 1001, 99999, 100000, 100001, math.MinInt, math.MaxInt}[r.Intn(13)]
	switch r.Intn(9) {
	case 0:
		rules[i].Every = num
	case 1:
		rules[i].At = num
	case 2:
		rules[i].From = num
	case 3:
		rules[i].To = num
	case 4:
		rules[i].At = rules[i].Every - r.Intn(2)
	case 5:
		rules[i].To = rules[i].From - r.Intn(2)
	case 6:
		rules[i].But = append(rules[i].But, num)
	case 7:
		if n := len(rules[i].But); n > 0 {
			rules[i].But[r.Intn(n)] = num
		}
	case 8:
		rules = append(rules, rules[i])
	}
	return copyCal(rules)
}

package tests

import (
	"fmt"
	"math"
	"slices"
	"strings"
	"testing"
	"unsafe"

	"loop.example/dunlin/impl"
)

// dueJust asks that a calendar has just these ticks: at each tick up to its end and some beyond, and for each two of them.
func dueJust(t *testing.T, rules []impl.CalRule, ticks ...int) {
	t.Helper()
	end := 0
	for _, r := range rules {
		end = max(end, r.To)
	}
	if !impl.CalOk(rules) {
		t.Errorf("%s is not ok", calShape(rules))
	}
	for tick := -9; tick <= end+9; tick++ {
		if due := impl.CalDue(rules, tick); due != slices.Contains(ticks, tick) {
			t.Errorf("%s: %d is due: %v", calShape(rules), tick, due)
		}
		if next := impl.CalNext(rules, tick); next != nextBy(ticks, tick) {
			t.Errorf("%s: behind %d comes %d, asked for %d", calShape(rules), tick, next, nextBy(ticks, tick))
		}
		for to := -9; to <= end+9; to += 1 + end/100 {
			if n := impl.CalCount(rules, tick, to); n != countBy(ticks, tick, to) {
				t.Errorf("%s: above %d, up to %d: %d, asked for %d", calShape(rules), tick, to, n, countBy(ticks, tick, to))
			}
		}
	}
	calAlike(t, rules, 100)
}

func TestTicksOfOneRule(t *testing.T) {
	dueJust(t, cal(rule(5, 2, 0, 40, 12)), 2, 7, 17, 22, 27, 32, 37)
	dueJust(t, cal(rule(5, 0, 0, 12)), 0, 5, 10)
	dueJust(t, cal(rule(5, 4, 0, 14)), 4, 9, 14)
	dueJust(t, cal(rule(1, 0, 0, 3)), 0, 1, 2, 3)
	dueJust(t, cal(rule(1, 0, 7, 7)), 7)
	dueJust(t, cal(rule(1000, 999, 0, 2000)), 999, 1999)
	dueJust(t, cal(rule(1000, 0, 0, 1000)), 0, 1000)
	dueJust(t, cal(rule(1000, 0, 1, 999)))
	// From and To are ticks, or one off.
	dueJust(t, cal(rule(5, 2, 7, 17)), 7, 12, 17)
	dueJust(t, cal(rule(5, 2, 8, 16)), 12)
	dueJust(t, cal(rule(5, 2, 6, 18)), 7, 12, 17)
	dueJust(t, cal(rule(5, 2, 8, 11)))
	dueJust(t, cal(rule(5, 2, 12, 12)), 12)
	dueJust(t, cal(rule(5, 2, 11, 11)))
	dueJust(t, cal(rule(5, 2, 0, 1)))
	dueJust(t, cal(rule(5, 2, 0, 2)), 2)
	// The remainder is the tick's, not that of how far it is from From.
	dueJust(t, cal(rule(4, 1, 3, 14)), 5, 9, 13)
	dueJust(t, cal(rule(7, 6, 6, 13)), 6, 13)
}

func TestTicksThatAreLeftOut(t *testing.T) {
	dueJust(t, cal(rule(5, 2, 0, 40, 2)), 7, 12, 17, 22, 27, 32, 37)
	dueJust(t, cal(rule(5, 2, 0, 40, 2, 7, 12)), 17, 22, 27, 32, 37)
	dueJust(t, cal(rule(5, 2, 0, 40, 12, 17, 22)), 2, 7, 27, 32, 37)
	dueJust(t, cal(rule(5, 2, 0, 40, 27, 32, 37)), 2, 7, 12, 17, 22)
	dueJust(t, cal(rule(5, 2, 0, 40, 12, 22, 32)), 2, 7, 17, 27, 37)
	dueJust(t, cal(rule(5, 2, 0, 40, 2, 7, 12, 17, 22, 27, 32, 37)))
	dueJust(t, cal(rule(1, 0, 0, 9, 1, 2, 3, 4, 5, 6, 7, 8)), 0, 9)
	dueJust(t, cal(rule(1, 0, 3, 3, 3)))
	dueJust(t, cal(rule(1000, 999, 0, 3000, 999, 1999)), 2999)
	// None of the rule's.
	dueJust(t, cal(rule(5, 2, 5, 20, 2, 3, 8, 11, 13, 22, 27, 100000)), 7, 12, 17)
	dueJust(t, cal(rule(5, 2, 5, 20, 0, 12, 13)), 7, 17)
}

func TestTicksOfSeveralRules(t *testing.T) {
	// Apart, between each other, and on each other.
	dueJust(t, cal(rule(3, 0, 0, 9), rule(4, 0, 20, 30)), 0, 3, 6, 9, 20, 24, 28)
	dueJust(t, cal(rule(4, 0, 20, 30), rule(3, 0, 0, 9)), 0, 3, 6, 9, 20, 24, 28)
	dueJust(t, cal(rule(4, 1, 0, 13), rule(4, 3, 0, 13)), 1, 3, 5, 7, 9, 11, 13)
	dueJust(t, cal(rule(4, 0, 0, 24), rule(6, 0, 0, 24)), 0, 4, 6, 8, 12, 16, 18, 20, 24)
	dueJust(t, cal(rule(2, 0, 0, 8), rule(2, 0, 0, 8), rule(2, 0, 0, 8), rule(4, 0, 0, 12)), 0, 2, 4, 6, 8, 12)
	dueJust(t, cal(rule(9, 1, 0, 30), rule(9, 4, 0, 30), rule(9, 7, 0, 30), rule(9, 1, 28, 40)), 1, 4, 7, 10, 13, 16, 19, 22, 25, 28, 37)
	dueJust(t, cal(rule(5, 2, 0, 40, 12), rule(20, 0, 10, 100)), 2, 7, 17, 20, 22, 27, 32, 37, 40, 60, 80, 100)
	// What one leaves out is due by another one, or left out by both.
	dueJust(t, cal(rule(2, 0, 0, 8, 4), rule(4, 0, 0, 8)), 0, 2, 4, 6, 8)
	dueJust(t, cal(rule(4, 0, 0, 8), rule(2, 0, 0, 8, 4)), 0, 2, 4, 6, 8)
	dueJust(t, cal(rule(2, 0, 0, 8, 4), rule(4, 0, 0, 8, 4)), 0, 2, 6, 8)
	dueJust(t, cal(rule(2, 0, 0, 8, 4, 6, 8), rule(3, 0, 0, 8)), 0, 2, 3, 6)
	dueJust(t, cal(rule(1, 0, 5, 5, 5), rule(3, 0, 0, 8)), 0, 3, 6)
	dueJust(t, cal(rule(1, 0, 5, 5, 5), rule(1, 0, 6, 6, 6)))
	dueJust(t, cal(rule(6, 5, 0, 20), rule(1, 0, 6, 6, 6), rule(1, 0, 8, 8)), 5, 8, 11, 17)
}

func TestTicksUpToTheLast(t *testing.T) {
	for _, c := range []struct {
		rules []impl.CalRule
		count int
	}{
		{cal(rule(1, 0, 0, 100000)), 100001},
		{cal(rule(1, 0, 0, 100000, 0, 1, 99999, 100000)), 99997},
		{cal(rule(1000, 0, 0, 100000)), 101},
		{cal(rule(1000, 999, 0, 100000)), 100},
		{cal(rule(1, 0, 100000, 100000)), 1},
		{cal(rule(1, 0, 100000, 100000, 100000)), 0},
		{cal(rule(1000, 1, 100000, 100000)), 0},
		{cal(rule(2, 0, 0, 100000), rule(2, 1, 0, 100000), rule(1, 0, 0, 100000), rule(3, 0, 0, 100000)), 100001},
		{cal(rule(2, 0, 0, 100000, 99996, 99998, 100000), rule(3, 1, 99990, 100000, 99999)), 50001},
	} {
		for _, far := range [][2]int{{-1, 100000}, {math.MinInt, math.MaxInt}, {math.MinInt, 100000}, {-1, math.MaxInt}, {-100001, 100001}} {
			if n := impl.CalCount(c.rules, far[0], far[1]); n != c.count {
				t.Errorf("%s above %d, up to %d: %d, asked for %d", calShape(c.rules), far[0], far[1], n, c.count)
			}
			if n := impl.CalCount(c.rules, far[1], far[0]); n != 0 {
				t.Errorf("%s above %d, up to %d: %d", calShape(c.rules), far[1], far[0], n)
			}
		}
		calAlike(t, c.rules, 20)
	}
}

func TestTicksThatAreFar(t *testing.T) {
	rules := cal(rule(5, 2, 0, 40, 12), rule(1, 0, 100000, 100000))
	for _, tick := range farTicks {
		next := -1
		if tick < 0 {
			next = 2
		}
		if impl.CalDue(rules, tick) || impl.CalNext(rules, tick) != next {
			t.Errorf("%d: %v, %d", tick, impl.CalDue(rules, tick), impl.CalNext(rules, tick))
		}
		if n := impl.CalCount(rules, tick, tick); n != 0 {
			t.Errorf("from %d to itself: %d", tick, n)
		}
		for _, to := range farTicks {
			want := 0
			if tick < 0 && to > 0 {
				want = 8
			}
			if n := impl.CalCount(rules, tick, to); n != want {
				t.Errorf("above %d, up to %d: %d, asked for %d", tick, to, n, want)
			}
		}
	}
	// A tick whose remainder is right, but below the first or above the last.
	for _, tick := range []int{-3, -8, 42, 47, 100002, math.MaxInt/5*5 + 2, math.MinInt/5*5 - 3} {
		if impl.CalDue(cal(rule(5, 2, 0, 40)), tick) {
			t.Errorf("%d is due", tick)
		}
	}
}

// ruleSets are all that a number of a rule may be, and may not.
func ruleSets() []struct {
	what        string
	least, most int
	set         func(n int) impl.CalRule
} {
	return []struct {
		what        string
		least, most int
		set         func(n int) impl.CalRule
	}{
		{"Every", 1, 1000, func(n int) impl.CalRule { return rule(n, 0, 0, 9) }},
		{"Every with At", 6, 1000, func(n int) impl.CalRule { return rule(n, 5, 0, 9) }},
		{"At", 0, 6, func(n int) impl.CalRule { return rule(7, n, 0, 9) }},
		{"At of 1", 0, 0, func(n int) impl.CalRule { return rule(1, n, 0, 9) }},
		{"At of 1000", 0, 999, func(n int) impl.CalRule { return rule(1000, n, 0, 9) }},
		{"From", 0, 100000, func(n int) impl.CalRule { return rule(7, 2, n, 100000) }},
		{"From with To", 0, 9, func(n int) impl.CalRule { return rule(7, 2, n, 9) }},
		{"To", 0, 100000, func(n int) impl.CalRule { return rule(7, 2, 0, n) }},
		{"To with From", 30, 100000, func(n int) impl.CalRule { return rule(7, 2, 30, n) }},
		{"From and To", 0, 100000, func(n int) impl.CalRule { return rule(7, 2, n, n) }},
		{"But", 0, 100000, func(n int) impl.CalRule { return rule(7, 2, 0, 9, n) }},
		{"But behind another", 4, 100000, func(n int) impl.CalRule { return rule(7, 2, 0, 9, 3, n) }},
		{"But ahead of another", 0, 8, func(n int) impl.CalRule { return rule(7, 2, 0, 9, n, 9) }},
		{"But between", 4, 8, func(n int) impl.CalRule { return rule(7, 2, 0, 9, 1, 3, n, 9, 12) }},
	}
}

func TestRulesOk(t *testing.T) {
	right := rule(5, 2, 0, 40, 12)
	for _, c := range ruleSets() {
		for _, n := range []int{math.MinInt, c.least - 1, c.least, c.least + 1, c.most - 1, c.most, c.most + 1, math.MaxInt} {
			one := c.set(n)
			for _, rules := range [][]impl.CalRule{cal(one), cal(one, right), cal(right, one), cal(right, right, right, one)} {
				what := fmt.Sprint(c.what, " ", n)
				if n < c.least || n > c.most {
					calNone(t, what, rules)
				} else if !impl.CalOk(rules) {
					t.Errorf("%s: %s is not ok", what, calShape(rules))
				}
				calAlike(t, rules, 5)
			}
		}
	}
	for n := range 12 {
		var but []int
		for i := range n {
			but = append(but, 3*i)
		}
		if rules := cal(right, rule(2, 0, 0, 40, but...)); n > 8 {
			calNone(t, fmt.Sprint(n, " left out"), rules)
		} else {
			calAlike(t, rules, 20)
		}
		rules := slices.Repeat(cal(right), n)
		if n < 1 || n > 4 {
			calNone(t, fmt.Sprint(n, " rules"), rules)
		} else {
			calAlike(t, rules, 20)
		}
	}
	calNone(t, "an empty list", []impl.CalRule{})
	calNone(t, "rules of nothing", make([]impl.CalRule, 2))
	calNone(t, "the same twice", cal(rule(5, 2, 0, 40, 12, 12)))
	calNone(t, "descending", cal(rule(5, 2, 0, 40, 17, 12)))
	calNone(t, "nothing but Every", cal(rule(-5, 2, 0, 40)))
	if !impl.CalOk(cal(rule(1, 0, 0, 0))) || !impl.CalOk([]impl.CalRule{{Every: 1, But: []int{}}}) {
		t.Error("the least rule is not ok")
	}
}

const longestRule = "every 1000 at 999 from 100000 to 100000 but 10000 99994 99995 99996 99997 99998 99999 100000\n"

func TestRulesAreWritten(t *testing.T) {
	for _, c := range []struct {
		text  string
		rules []impl.CalRule
	}{
		{"every 5 at 2 from 0 to 40 but 12\nevery 20 at 0 from 10 to 100\n", cal(rule(5, 2, 0, 40, 12), rule(20, 0, 10, 100))},
		{"every 1 at 0 from 0 to 0\n", cal(rule(1, 0, 0, 0))},
		{"every 1 at 0 from 0 to 0\n", []impl.CalRule{{Every: 1, But: []int{}}}},
		{"every 1 at 0 from 0 to 0 but 0\n", cal(rule(1, 0, 0, 0, 0))},
		{"every 1000 at 999 from 100000 to 100000 but 0 1 2 3 4 5 6 100000\n", cal(rule(1000, 999, 100000, 100000, 0, 1, 2, 3, 4, 5, 6, 100000))},
		{strings.Repeat(longestRule, 4), slices.Repeat(cal(rule(1000, 999, 100000, 100000, 10000, 99994, 99995, 99996, 99997, 99998, 99999, 100000)), 4)},
		// Their order stays, and what is there twice.
		{"every 9 at 8 from 7 to 90\nevery 2 at 1 from 0 to 5\nevery 9 at 8 from 7 to 90\n", cal(rule(9, 8, 7, 90), rule(2, 1, 0, 5), rule(9, 8, 7, 90))},
	} {
		if got := impl.CalWrite(c.rules); got != c.text {
			t.Errorf("%s is written %q", calShape(c.rules), got)
		}
		got, ok := impl.CalRead(c.text)
		if !ok || calShape(got) != calShape(c.rules) || impl.CalWrite(got) != c.text {
			t.Errorf("%q is read %v, %s", c.text, ok, calShape(got))
		}
	}
	// No calendar that is ok has a longer text, so that each can be read.
	if n := len(strings.Repeat(longestRule, 4)); n != 372 || n > impl.CalMaxText {
		t.Errorf("%d bytes", n)
	}
}

// wrongCals are no texts of calendars.
func wrongCals() []string {
	right := "every 5 at 2 from 0 to 40 but 12 17\n"
	list := []string{"", " ", "\n", "\n\n", "every", "every\n", "every 5\n", "every 5 at 2\n", "every 5 at 2 from 0\n", "every 5 at 2 from 0 to\n", "but 12\n", "5 2 0 40\n", right[:len(right)-1],
		"\n" + right, right + "\n", right + " ", right + " \n", right + right[:len(right)-1], right + "\n" + right, right + "x", right + "\x00", "\x00" + right, "\xff" + right, right + "\xff\n", "\xef\xbb\xbf" + right,
		strings.Repeat(right, 5), strings.Repeat(right, 22), strings.Repeat(right, 23), strings.Repeat("\n", 800), strings.Repeat("x", 801), right + strings.Repeat(" ", 801-len(right)),
		"every 5 at 2 from 0 to 40 but\n", "every 5 at 2 from 0 to 40 but \n", "every 5 at 2 from 0 to 40 \n", "every 5 at 2 from 0 to 40 12\n", "every 5 at 2 from 0 to 40 but 12 but 17\n", "every 5 at 2 from 0 to 40 not 12\n",
		"every 5 at 2 from 0 to 40 but 12,17\n", "every 5 at 2 from 0 to 40 17 but\n", "every 5 at 2 to 40 from 0\n", "at 2 every 5 from 0 to 40\n", "every 5 at 2 from 0 to 40 but but\n", "every five at 2 from 0 to 40\n",
		// Read, but not ok.
		"every 0 at 0 from 0 to 40\n", "every 1001 at 2 from 0 to 40\n", "every 5 at 5 from 0 to 40\n", "every 5 at 2 from 41 to 40\n", "every 5 at 2 from 0 to 100001\n", "every 5 at 2 from 100001 to 100001\n",
		"every 5 at 2 from 0 to 40 but 100001\n", "every 5 at 2 from 0 to 40 but 17 12\n", "every 5 at 2 from 0 to 40 but 12 12\n", "every 5 at 2 from 0 to 40 but 1 2 3 4 5 6 7 8 9\n",
		"every 5 at -1 from 0 to 40\n", "every 5 at 2 from -1 to 40\n", "every 5 at 2 from -2 to -1\n", "every -5 at 2 from 0 to 40\n", "every 5 at 2 from 0 to 40 but -12\n",
	}
	// A number that is written in another way, or is none that can be held.
	words := strings.Split(strings.TrimSuffix(right, "\n"), " ")
	for _, place := range []int{1, 3, 5, 7, 9, 10} {
		num := words[place]
		for _, other := range []string{"0" + num, "00" + num, "+" + num, "-" + num, num + ".0", num + "e0", "0x" + num, num + "_0", "_" + num, "", " " + num, num + " ", "\t" + num, num + "\r", num + "a", "a", "-0", "1" + strings.Repeat("0", 18), "9223372036854775808", "18446744073709551616", "18446744073709551621",
			"-9223372036854775809", strings.Repeat("9", 40), "\u0665", "\uff15", num + "\u00a0", "\ufffd", "\xff", num + "\x00"} {
			list = append(list, strings.Join(slices.Concat(words[:place], []string{other}, words[place+1:]), " ")+"\n")
		}
	}
	for _, place := range []int{0, 2, 4, 6, 8} {
		for _, other := range []string{"", "x", strings.ToUpper(words[place]), words[place] + "s", " " + words[place], words[place] + " ", words[place] + "\t", "every\n", "\xff" + words[place], words[place][:1], "0"} {
			list = append(list, strings.Join(slices.Concat(words[:place], []string{other}, words[place+1:]), " ")+"\n")
		}
	}
	return list
}

func calNotRead(t *testing.T, text string) {
	t.Helper()
	if got, ok := impl.CalRead(text); ok || len(got) > 0 {
		t.Errorf("%q is read: %v, %s", text, ok, calShape(got))
	}
}

func TestOtherTextsAreNotRead(t *testing.T) {
	right := "every 5 at 2 from 0 to 40\n"
	for _, text := range wrongCals() {
		calNotRead(t, text)
		if text == "" {
			continue
		}
		// A line that is right does not help, on either side.
		calNotRead(t, right+text)
		calAsBy(t, text+right)
	}
	text := "every 5 at 2 from 0 to 40 but 12 17\nevery 20 at 0 from 10 to 100\n"
	for i := range len(text) {
		calAsBy(t, text[:i])
		calAsBy(t, text[i:])
		calAsBy(t, text[:i]+text[i+1:])
		for _, more := range []string{" ", "\n", "0", "-", "+", "\x00", "\xff", "\t", "\r"} {
			calAsBy(t, text[:i]+more+text[i:])
			calAsBy(t, text[:i]+more+text[i+1:])
		}
	}
}

// calAsBy holds what is read of a text against the second reckoning, and writes it again.
func calAsBy(t *testing.T, text string) bool {
	t.Helper()
	got, ok := impl.CalRead(text)
	want, by := calReadBy(text)
	if !by {
		want = nil
	}
	if ok != by || calShape(got) != calShape(want) {
		t.Errorf("%q is read %v, %s, asked for %v, %s", text, ok, calShape(got), by, calShape(want))
	}
	if ok && impl.CalWrite(got) != text {
		t.Errorf("%q is written %q again", text, impl.CalWrite(got))
	}
	return ok
}

func TestCalendarsAreNewMemory(t *testing.T) {
	text := strings.Clone("every 5 at 2 from 0 to 40 but 12 17 22\nevery 20 at 0 from 10 to 100\nevery 7 at 6 from 0 to 70 but 13\n")
	one, _ := impl.CalRead(text)
	two, _ := impl.CalRead(text)
	lieApart(t, spansOfCal("one", one), spansOfCal("two", two))
	written := impl.CalWrite(one)
	if written != text || unsafe.StringData(written) == unsafe.StringData(text) {
		t.Errorf("%q", written)
	}
	for _, rules := range [][]impl.CalRule{one, cal(rule(5, 2, 0, 40, 17, 12), rule(0, 0, 0, 0, 5)), slices.Repeat(cal(rule(5, 2, 0, 40, 12, 17)), 5), cal(rule(5, 2, 0, 40, 1, 2, 3, 4, 5, 6, 7, 8, 9))} {
		rules = roomyCal(rules)
		kept := wholeCal(rules)
		impl.CalOk(rules)
		impl.CalWrite(rules)
		for _, tick := range []int{-1, 0, 11, 12, 40, 100, math.MaxInt} {
			impl.CalDue(rules, tick)
			impl.CalNext(rules, tick)
			impl.CalCount(rules, tick, 90)
		}
		if wholeCal(rules) != kept {
			t.Errorf("%s was changed to %s", kept, wholeCal(rules))
		}
	}
}

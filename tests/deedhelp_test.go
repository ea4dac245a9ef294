package tests

import (
	"strconv"
	"strings"
	"testing"
)

// deeds are what happens to worlds of a kind, W, by events, E: as the program says, and as a second reckoning does.
type deeds[W, E any] struct {
	do, by func(w W, e E) (W, int)
	calm   func(w W, rounds int) W
	calmBy func(w W) W
	// most calm rounds pass at once.
	most  int
	event func(t *testing.T, text string) E
	ok    func(w W) bool
	// okBy is what is not ok by a second reckoning; "", if it is.
	okBy  func(w W) string
	same  func(a, b W) bool
	copy  func(w W) W
	shape func(w W) string
}

// codedEvent is an event, and the code that it must have.
type codedEvent[E any] struct {
	event E
	code  int
}

// events are parted by strokes, each with its code behind `=`, if it has one, or its number of times behind `*`.
func (d deeds[W, E]) events(t *testing.T, script string) []codedEvent[E] {
	t.Helper()
	var list []codedEvent[E]
	for _, text := range strings.Split(script, "|") {
		text, times, _ := strings.Cut(text, "*")
		text, codes, _ := strings.Cut(text, "=")
		code, _ := strconv.Atoi(codes)
		count, _ := strconv.Atoi(times)
		for range max(1, count) {
			list = append(list, codedEvent[E]{d.event(t, text), code})
		}
	}
	return list
}

// doesAll lets events happen, and asks that each has its code.
func (d deeds[W, E]) doesAll(t *testing.T, w W, script string) W {
	t.Helper()
	for _, e := range d.events(t, script) {
		w = d.does(t, w, e.event, e.code)
	}
	return w
}

// does asks that an event has a code, and that all is as the second reckoning says.
func (d deeds[W, E]) does(t *testing.T, w W, e E, code int) W {
	t.Helper()
	x, c := d.doesAlike(t, w, e)
	if c != code {
		t.Fatalf("%+v: code %d, asked for %d\n%s", e, c, code, d.shape(w))
	}
	return x
}

// doesAlike asks that all is as the second reckoning says, that nothing that is handed in is changed, and that the world stays ok.
func (d deeds[W, E]) doesAlike(t *testing.T, w W, e E) (W, int) {
	t.Helper()
	before := d.copy(w)
	x, code := d.do(w, e)
	want, byHand := d.by(w, e)
	if code != byHand || !d.same(x, want) {
		t.Fatalf("%+v of\n%s: code %d, %d by hand\n%s, asked for\n%s", e, d.shape(w), code, byHand, d.shape(x), d.shape(want))
	}
	if !d.same(w, before) {
		t.Fatalf("%+v changed what it got\n%s\n%s", e, d.shape(before), d.shape(w))
	}
	if code != 0 && code != 8 && !d.same(x, before) {
		t.Fatalf("%+v: code %d, and\n%s became\n%s", e, code, d.shape(before), d.shape(x))
	}
	if !d.ok(x) {
		t.Fatalf("%+v: not ok: %s", e, d.shape(x))
	}
	return x, code
}

// goes lets an event happen, without a second reckoning, and asks that nothing that is handed in is changed, and that the world stays ok.
func (d deeds[W, E]) goes(t *testing.T, w W, e E) (W, int) {
	t.Helper()
	before := d.copy(w)
	x, code := d.do(w, e)
	if !d.same(w, before) || !d.ok(x) {
		t.Fatalf("%+v, code %d, of\n%s, which is now\n%s, came to\n%s", e, code, d.shape(before), d.shape(w), d.shape(x))
	}
	return x, code
}

// calms lets calm rounds pass, and asks that they are as the second reckoning says.
func (d deeds[W, E]) calms(t *testing.T, w W, rounds int) W {
	t.Helper()
	before := d.copy(w)
	x := d.calm(w, rounds)
	if !d.same(w, before) {
		t.Fatalf("%d rounds changed what they got\n%s\n%s", rounds, d.shape(before), d.shape(w))
	}
	want := w
	for range min(rounds, d.most) {
		want = d.calmBy(want)
	}
	if !d.same(x, want) {
		t.Fatalf("%d rounds of\n%s\nare\n%s, asked for\n%s", rounds, d.shape(w), d.shape(x), d.shape(want))
	}
	return x
}

// changed asks of each change whether the world stays ok; then for what is told of it, and, if it does, of some events.
func (d deeds[W, E]) changed(t *testing.T, w W, list []changing[W], told func(what string, x W, ok bool), events ...E) {
	t.Helper()
	for _, c := range list {
		x := d.copy(w)
		c.make(&x)
		if d.ok(x) != c.ok || (d.okBy(x) == "") != c.ok {
			t.Errorf("%s: ok is not %v, %q by hand", c.what, c.ok, d.okBy(x))
		}
		told(c.what, x, c.ok)
		if c.ok {
			for _, e := range events {
				d.doesAlike(t, x, e)
			}
		}
	}
}

// cameOften asks that all was met that random tests must have met, so often.
func cameOften(t *testing.T, seen, least map[string]int) {
	t.Helper()
	for what, count := range least {
		if seen[what] < count {
			t.Errorf("%s: %d; %v", what, seen[what], seen)
		}
	}
	if testing.Verbose() {
		t.Log(seen)
	}
}

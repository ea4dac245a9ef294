package tests

import (
	"math/rand"
	"slices"
	"strconv"
	"strings"
	"testing"
	"unsafe"

	"loop.example/dunlin/impl"
)

// maker makes workflows that stand right, and are often right in all.
type maker struct {
	*rand.Rand
	rows []string
}

func (m *maker) add(words ...string) {
	m.rows = append(m.rows, strings.Join(words, " "))
}

func (m *maker) name() string {
	return string(rune('a' + m.Intn(4)))
}

func (m *maker) operand() string {
	if m.Intn(3) == 0 {
		return m.name()
	}
	return strconv.Itoa(m.Intn(9) - 4)
}

func (m *maker) test() string {
	return m.operand() + " " + []string{"less", "same", "more", "other"}[m.Intn(4)] + " " + m.operand()
}

func (m *maker) block(deep int) {
	for range m.Intn(4) {
		m.row(deep)
	}
	if m.Intn(5) == 0 {
		m.add([]string{"return 1", "fail 2", "next 3"}[m.Intn(3)])
	}
}

func (m *maker) row(deep int) {
	kind := m.Intn(9)
	if deep == 0 {
		kind = m.Intn(5)
	}
	switch kind {
	case 0, 1:
		m.add("let", m.name(), "is", m.operand())
	case 2:
		m.add("do", m.name(), "pay", m.operand(), "undo", "back")
	case 3:
		m.add("get", m.name(), []string{"go", "stop", "halt"}[m.Intn(3)], "for", m.operand())
	case 4:
		m.add("sleep", m.operand())
	case 5, 6:
		m.add([]string{"if " + m.test(), "patch " + m.name()}[m.Intn(2)])
		m.block(deep - 1)
		if m.Intn(2) == 0 {
			m.add("else")
			m.block(deep - 1)
		}
		m.add("end")
	case 7:
		m.add("while", m.test())
		m.block(deep - 1)
		m.add("end")
	case 8:
		m.add("both")
		m.block(deep - 1)
		m.add("and")
		m.block(deep - 1)
		m.add("end")
	}
}

// made is a text of a workflow that stands right.
func made(r *rand.Rand) string {
	for {
		m := &maker{Rand: r}
		m.add([]string{"workflow w", "workflow w a", "workflow w a b c"}[m.Intn(3)])
		m.block(3)
		if m.Intn(6) > 0 {
			m.add("return", m.operand())
		}
		if len(m.rows) <= impl.FlowMaxLines {
			return rows(m.rows...)
		}
	}
}

// names are those of one letter, a bit for each; a way to come to a line is the names that have numbers then.
type names uint32

func nameOf(word string) names {
	if len(word) == 1 && word[0] >= 'a' {
		return 1 << (word[0] - 'a')
	}
	return 0
}

// walker goes all ways through a workflow at once; it knows nothing of how the check goes.
type walker struct {
	lines []impl.FlowLine
	fault impl.FlowFault
	boths int
}

func (w *walker) tell(line, code int) {
	if w.fault.Code == 0 {
		w.fault = impl.FlowFault{Line: line, Code: code}
	}
}

// eachOnce is ways without those that are there already.
func eachOnce(lists ...[]names) []names {
	all := slices.Concat(lists...)
	slices.Sort(all)
	return slices.Compact(all)
}

// walk goes from a place with these ways up to what closes the block; where that is, and the ways that come there.
func (w *walker) walk(at int, ways []names) (int, []names) {
	for at < len(w.lines) {
		l := w.lines[at]
		if l.Kind == impl.FlowElse || l.Kind == impl.FlowAnd || l.Kind == impl.FlowEnd {
			return at, ways
		}
		if len(ways) == 0 {
			w.tell(at+1, impl.FlowDead)
		}
		for _, a := range l.Args {
			for _, way := range ways {
				if nameOf(a)&^way != 0 {
					w.tell(at+1, impl.FlowUnknown)
				}
			}
		}
		at, ways = w.past(at, l, ways)
	}
	return at, ways
}

func (w *walker) past(at int, l impl.FlowLine, ways []names) (int, []names) {
	switch l.Kind {
	case impl.FlowReturn, impl.FlowFail, impl.FlowNext:
		if w.boths > 0 {
			w.tell(at+1, impl.FlowUneven)
		}
		return at + 1, nil
	case impl.FlowIf, impl.FlowPatch:
		end, first := w.walk(at+1, ways)
		if w.lines[end].Kind != impl.FlowElse {
			return end + 1, eachOnce(first, ways)
		}
		end, second := w.walk(end+1, ways)
		return end + 1, eachOnce(first, second)
	case impl.FlowWhile:
		end, out := w.walk(at+1, ways)
		return end + 1, eachOnce(out, ways)
	case impl.FlowBoth:
		return w.pastBoth(at, ways)
	}
	out := slices.Clone(ways)
	for i := range out {
		out[i] |= nameOf(l.To)
	}
	return at + 1, eachOnce(out)
}

func (w *walker) pastBoth(at int, ways []names) (int, []names) {
	w.boths++
	and, first := w.walk(at+1, ways)
	end, second := w.walk(and+1, ways)
	w.boths--
	a, b := touched(w.lines[at+1:and]), touched(w.lines[and+1:end])
	if a.given&(b.given|b.used)|a.used&b.given|a.signals&b.signals != 0 {
		w.tell(and+1, impl.FlowTwice)
	}
	var out []names
	for _, x := range first {
		for _, y := range second {
			out = append(out, x|y)
		}
	}
	return end + 1, eachOnce(out)
}

// touch is what a part touches; signals are told by their first letter.
type touch struct {
	given, used, signals names
}

func touched(part []impl.FlowLine) touch {
	var all touch
	for _, l := range part {
		all.given |= nameOf(l.To)
		for _, a := range l.Args {
			all.used |= nameOf(a)
		}
		if l.Kind == impl.FlowGet {
			all.signals |= nameOf(l.Name[:1])
		}
	}
	return all
}

// walked is the fault of a workflow that stands right.
func walked(lines []impl.FlowLine) impl.FlowFault {
	w := &walker{lines: lines}
	start := names(0)
	for _, a := range lines[0].Args {
		start |= nameOf(a)
	}
	_, ways := w.walk(1, []names{start})
	if len(ways) > 0 {
		w.tell(len(lines), impl.FlowNoReturn)
	}
	return w.fault
}

// Promises 2, 3 and 4, of workflows that are made up: what is wrong is just what going all ways finds.
func TestMadeWorkflows(t *testing.T) {
	t.Parallel()
	r := rand.New(rand.NewSource(1))
	seen := map[int]int{}
	for range 20000 {
		text := made(r)
		lines := linesOf(t, text)
		want := walked(lines)
		seen[want.Code]++
		if f := impl.FlowCheck(lines); f != want {
			t.Fatalf("%s\n%+v, asked for %+v", text, f, want)
		}
		holdTogether(t, lines)
		if want.Code == 0 {
			if read := taken(t, text); !same(read, lines) {
				t.Fatalf("%s\nread as %v", text, read)
			}
		} else {
			refused(t, text, want.Line, want.Code)
		}
	}
	for _, code := range []int{0, impl.FlowUneven, impl.FlowUnknown, impl.FlowTwice, impl.FlowNoReturn, impl.FlowDead} {
		if seen[code] < 100 {
			t.Errorf("code %d was seen %d times", code, seen[code])
		}
	}
}

// holdTogether asks promises 3 and 4 of any lines.
func holdTogether(t *testing.T, lines []impl.FlowLine) {
	t.Helper()
	f := impl.FlowCheck(lines)
	text := impl.FlowPrint(lines)
	if (f.Code == 0) != (text != "") || f.Code == 0 && (f.Line != 0 || len(lines) < 2) || f.Line < 0 || f.Line > len(lines) || f.Code < 0 || f.Code > 8 {
		t.Fatalf("%v: %+v, %q", lines, f, text)
	}
	if f.Code == 0 {
		read, g := impl.FlowParse(text)
		if g != (impl.FlowFault{}) || !same(read, lines) {
			t.Fatalf("%v: written %q, read %v, %+v", lines, text, read, g)
		}
	}
}

// Promise 3 and 4: lines of any parts, some of them from right workflows.
func TestLinesOfAnyParts(t *testing.T) {
	t.Parallel()
	r := rand.New(rand.NewSource(2))
	words := []string{"", "a", "w", "undo", "for", "is", "add", "less", "1", "-1", "10000", " ", "a b", "abcdefghi", "\n", "\xff", "end"}
	right := 0
	for range 30000 {
		lines := linesOf(t, made(r))
		for range r.Intn(3) {
			at := r.Intn(len(lines))
			switch r.Intn(6) {
			case 0:
				lines[at].Kind = r.Intn(18) - 1
			case 1:
				lines[at].To = words[r.Intn(len(words))]
			case 2:
				lines[at].Name = words[r.Intn(len(words))]
			case 3:
				lines[at].Args = append(slices.Clone(lines[at].Args), words[r.Intn(len(words))])
			case 4:
				lines[at].Undo = words[r.Intn(len(words))]
			case 5:
				lines = slices.Delete(lines, at, at+1)
			}
			if len(lines) == 0 {
				break
			}
		}
		holdTogether(t, lines)
		if impl.FlowCheck(lines).Code == 0 {
			right++
		}
	}
	if right < 1000 {
		t.Errorf("only %d were right", right)
	}
}

// Promises 2 and 4: texts of any bytes, some of them from right workflows.
func TestTextsOfAnyBytes(t *testing.T) {
	t.Parallel()
	r := rand.New(rand.NewSource(3))
	bytes := []byte(" \n\n  azundoifelse019-\x00\xff\xc3\xa9\r\t")
	for range 30000 {
		text := []byte(made(r))
		for range r.Intn(4) {
			at := r.Intn(len(text) + 1)
			text = slices.Insert(text, at, bytes[r.Intn(len(bytes))])
		}
		if r.Intn(10) == 0 {
			text = make([]byte, r.Intn(60))
			for i := range text {
				text[i] = bytes[r.Intn(len(bytes))]
			}
		}
		readAny(t, string(text))
	}
}

func readAny(t *testing.T, text string) {
	t.Helper()
	lines, f := impl.FlowParse(text)
	if f.Code != 0 {
		rows := strings.Split(text, "\n")
		if len(lines) != 0 || f.Line < 0 || f.Line > len(rows) || f.Line > 0 && strings.Trim(rows[f.Line-1], " ") == "" {
			t.Fatalf("%q: %+v", text, f)
		}
		return
	}
	if f.Line != 0 || len(lines) < 2 || impl.FlowCheck(lines).Code != 0 {
		t.Fatalf("%q: %v", text, lines)
	}
	taken(t, text)
}

// Nothing that is handed in is changed, also behind the ends of its lists.
func TestNothingHandedInIsChanged(t *testing.T) {
	t.Parallel()
	r := rand.New(rand.NewSource(5))
	for range 3000 {
		lines := linesOf(t, made(r))
		roomy := append(slices.Clone(lines), impl.FlowLine{Kind: 77, Name: "behind"})[: len(lines) : len(lines)+1]
		for i := range roomy {
			args := roomy[i].Args
			roomy[i].Args = append(slices.Clone(args), "behind", "behind")[: len(args) : len(args)+2]
		}
		before := deepCopy(roomy)
		impl.FlowCheck(roomy)
		impl.FlowPrint(roomy)
		if !same(roomy, before) || roomy[:len(lines)+1][len(lines)].Kind != 77 {
			t.Fatalf("%v became %v", before, roomy)
		}
		for _, l := range roomy {
			n := len(l.Args)
			if rest := l.Args[n : n+2]; rest[0] != "behind" || rest[1] != "behind" {
				t.Fatalf("written behind the end of %v", l)
			}
		}
	}
}

// An answer shares no memory with the argument, and no two of its lists share any.
func TestAnswersAreNewMemory(t *testing.T) {
	t.Parallel()
	text := strings.Clone(rows("workflow w n m", "do a pay n m undo back", "do b pay n undo back", "get c go for n", "if a less b", "next a b", "end", "next"))
	low := uintptr(unsafe.Pointer(unsafe.StringData(text)))
	inText := func(s string) bool {
		p := uintptr(unsafe.Pointer(unsafe.StringData(s)))
		return s != "" && p >= low && p < low+uintptr(len(text))
	}
	lines, f := impl.FlowParse(text)
	if f.Code != 0 {
		t.Fatal(f)
	}
	for _, l := range lines {
		for _, s := range append([]string{l.To, l.Name, l.Undo}, l.Args...) {
			if inText(s) {
				t.Errorf("%q is a piece of the text", s)
			}
		}
	}
	for i := range lines {
		fresh, _ := impl.FlowParse(text)
		all := fresh[i].Args[:cap(fresh[i].Args)]
		for j := range all {
			all[j] = "changed"
		}
		for j := range fresh {
			if j != i && !slices.Equal(fresh[j].Args, lines[j].Args) {
				t.Errorf("the lists of lines %d and %d share memory", i, j)
			}
		}
	}
	again, _ := impl.FlowParse(text)
	if !same(again, lines) {
		t.Error("a second answer is another one")
	}
}

func FuzzFlowParse(f *testing.F) {
	f.Add("workflow w n\ndo a pay n undo back\nreturn a")
	f.Add("workflow w\nboth\nget a go\nand\nget b go\nend\nreturn 1")
	f.Fuzz(func(t *testing.T, text string) {
		readAny(t, text)
		lines, _ := impl.FlowParse(text)
		if len(lines) > 0 {
			holdTogether(t, lines)
		}
	})
}

package impl

import (
	"errors"
	"slices"
	"strconv"
)

// Faults of workflows.
const (
	FlowBadLine  = 1
	FlowUneven   = 2
	FlowTooDeep  = 3
	FlowUnknown  = 4
	FlowTwice    = 5
	FlowNoReturn = 6
	FlowDead     = 7
	FlowTooLong  = 8
)

// FlowCheck says what is wrong with lines first, each counted from 1 on.
func FlowCheck(lines []FlowLine) FlowFault {
	if len(lines) > FlowMaxLines {
		return faultOf(faultAt(0, FlowTooLong))
	}
	err := checkStand(lines)
	if err == nil {
		err = checkKnown(lines)
	}
	return faultOf(err)
}

// faultError is a fault on its way out of the blocks in which it was found.
type faultError struct {
	line int
	code int
}

func (e faultError) Error() string {
	return "line " + strconv.Itoa(e.line) + ": fault " + strconv.Itoa(e.code)
}

func faultAt(line int, code int) error {
	return faultError{line: line, code: code}
}

func faultOf(err error) FlowFault {
	var fault faultError
	if errors.As(err, &fault) {
		return FlowFault{Line: fault.line, Code: fault.code}
	}
	return FlowFault{}
}

// partError says behind which line the part begins that a fault is in.
type partError struct {
	behind int
	err    error
}

func (e partError) Error() string {
	return "behind line " + strconv.Itoa(e.behind) + ": " + e.err.Error()
}

func (e partError) Unwrap() error {
	return e.err
}

// openBlock is a block without its end so far; turned, if it had its FlowElse or FlowAnd.
type openBlock struct {
	kind   int
	turned bool
}

// openBlocks are the blocks around a line, the innermost last.
type openBlocks struct {
	list []openBlock
}

func checkStand(lines []FlowLine) error {
	if len(lines) == 0 {
		return faultAt(0, FlowUneven)
	}
	var open openBlocks
	for place, line := range lines {
		if !readsAsWritten(line) {
			return faultAt(place+1, FlowBadLine)
		}
		code := open.stand(place, line.Kind)
		if place == len(lines)-1 && len(open.list) > 0 {
			// A block that is never closed counts ahead of one that is too deep.
			code = FlowUneven
		}
		if code != 0 {
			return faultAt(place+1, code)
		}
	}
	return nil
}

func (b *openBlocks) stand(place int, kind int) int {
	if (place == 0) != (kind == FlowHead) {
		return FlowUneven
	}
	if opensBlock(kind) {
		return b.begin(kind)
	}
	switch kind {
	case FlowElse:
		return b.turn(FlowIf, FlowPatch)
	case FlowAnd:
		return b.turn(FlowBoth)
	case FlowEnd:
		return b.end()
	}
	return 0
}

func (b *openBlocks) begin(kind int) int {
	if len(b.list) == FlowMaxDeep {
		return FlowTooDeep
	}
	b.list = append(b.list, openBlock{kind: kind})
	return 0
}

func (b *openBlocks) turn(kinds ...int) int {
	last := len(b.list) - 1
	if last < 0 || b.list[last].turned || !slices.Contains(kinds, b.list[last].kind) {
		return FlowUneven
	}
	b.list[last].turned = true
	return 0
}

func (b *openBlocks) end() int {
	last := len(b.list) - 1
	if last < 0 || b.list[last].kind == FlowBoth && !b.list[last].turned {
		return FlowUneven
	}
	b.list = b.list[:last]
	return 0
}

// trail is a set that keeps the order in which its members came, so that those of a block can be taken out again.
type trail[T comparable] struct {
	list []T
}

func (t *trail[T]) has(member T) bool {
	return slices.Contains(t.list, member)
}

func (t *trail[T]) add(members ...T) {
	for _, member := range members {
		if !t.has(member) {
			t.list = append(t.list, member)
		}
	}
}

func (t *trail[T]) size() int {
	return len(t.list)
}

// since copies, as what comes behind a cut is written over it.
func (t *trail[T]) since(size int) []T {
	return slices.Clone(t.list[size:])
}

func (t *trail[T]) cut(size int) {
	t.list = t.list[:size]
}

// partEnd is whether one comes behind a part of a block, and which names it made known.
type partEnd struct {
	comes bool
	gives []string
}

// knowing goes through lines that stand right; known are the names that have a number at the place at.
type knowing struct {
	lines []FlowLine
	at    int
	boths int
	known trail[string]
}

func checkKnown(lines []FlowLine) error {
	k := knowing{lines: lines, at: 1}
	k.known.add(lines[0].Args...)
	end, err := k.part()
	if err == nil && end.comes {
		err = faultAt(len(lines), FlowNoReturn)
	}
	return err
}

// part goes up to the line that ends the part, and leaves known as it was ahead of it.
func (k *knowing) part() (partEnd, error) {
	ahead := k.known.size()
	defer k.known.cut(ahead)
	begin := k.at
	comes := true
	for k.at < len(k.lines) && !endsPart(k.lines[k.at].Kind) {
		on, err := k.line(comes)
		if err != nil {
			return partEnd{}, partError{behind: begin, err: err}
		}
		comes = on
	}
	return partEnd{comes: comes, gives: k.known.since(ahead)}, nil
}

func opensBlock(kind int) bool {
	return kind == FlowIf || kind == FlowPatch || kind == FlowWhile || kind == FlowBoth
}

func endsPart(kind int) bool {
	return kind == FlowElse || kind == FlowAnd || kind == FlowEnd
}

func endsRun(kind int) bool {
	return kind == FlowReturn || kind == FlowFail || kind == FlowNext
}

// line goes past a line, and the block that it opens, and tells whether one comes behind it.
func (k *knowing) line(comes bool) (bool, error) {
	line := k.lines[k.at]
	k.at++
	if !comes {
		return false, faultAt(k.at, FlowDead)
	}
	if !k.knowsAll(line.Args) {
		return false, faultAt(k.at, FlowUnknown)
	}
	if endsRun(line.Kind) && k.boths > 0 {
		return false, faultAt(k.at, FlowUneven)
	}
	switch line.Kind {
	case FlowIf, FlowPatch:
		return k.choice()
	case FlowWhile:
		return k.loop()
	case FlowBoth:
		return k.both()
	}
	if line.To != "" {
		k.known.add(line.To)
	}
	return !endsRun(line.Kind), nil
}

func (k *knowing) knowsAll(args []string) bool {
	for _, arg := range args {
		if isName(arg) && !k.known.has(arg) {
			return false
		}
	}
	return true
}

func (k *knowing) choice() (bool, error) {
	first, err := k.part()
	if err != nil {
		return false, err
	}
	second := partEnd{comes: true}
	if k.lines[k.at].Kind == FlowElse {
		k.at++
		second, err = k.part()
		if err != nil {
			return false, err
		}
	}
	k.at++
	k.known.add(givenByChoice(first, second)...)
	return first.comes || second.comes, nil
}

func givenByChoice(first partEnd, second partEnd) []string {
	if !first.comes {
		return second.gives
	}
	if !second.comes {
		return first.gives
	}
	var names []string
	for _, name := range first.gives {
		if slices.Contains(second.gives, name) {
			names = append(names, name)
		}
	}
	return names
}

// loop makes nothing known, as its block may be passed over; for the same reason one always comes behind it.
func (k *knowing) loop() (bool, error) {
	_, err := k.part()
	k.at++
	return true, err
}

func (k *knowing) both() (bool, error) {
	k.boths++
	begin := k.at
	first, err := k.part()
	if err != nil {
		return false, err
	}
	and := k.at
	k.at++
	second, err := k.part()
	if err != nil {
		return false, err
	}
	if anyTouch(k.lines[begin:and], k.lines[and+1:k.at]) {
		return false, faultAt(and+1, FlowTwice)
	}
	k.at++
	k.boths--
	k.known.add(first.gives...)
	k.known.add(second.gives...)
	return true, nil
}

func anyTouch(first []FlowLine, second []FlowLine) bool {
	for _, a := range first {
		for _, b := range second {
			if gives(a, b) || gives(b, a) || sameSignal(a, b) {
				return true
			}
		}
	}
	return false
}

// gives says whether a line gives a number to a name that another one gives one, or uses.
func gives(a FlowLine, b FlowLine) bool {
	return a.To != "" && (a.To == b.To || slices.Contains(b.Args, a.To))
}

func sameSignal(a FlowLine, b FlowLine) bool {
	return a.Kind == FlowGet && b.Kind == FlowGet && a.Name == b.Name
}

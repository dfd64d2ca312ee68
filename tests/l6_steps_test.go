package tests

import (
	"math"
	"math/rand"
	"slices"
	"strconv"
	"strings"
	"sync"
	"testing"

	"loop.example/heirlooms/impl"
)

// shelfSteps is a shelf of three modules, in one of which the first function has a head.
// S00, S02, S10 and S20 can be dropped, all others cannot; S21 can be copied; S02, S12 and S21 cannot be kept; S12 has no fields.
func shelfSteps(m int, head string) []impl.Module {
	shelf := []impl.Module{}
	for _, text := range []string{
		"record 15 n\nrecord 12 S00 b\nrecord 3 n\nfriend 1\n" +
			"func 2 n S01 : S00 b : : 0\nret\nfunc 1 &n !S00 : &S00 !n b : : 1\nret\nfunc 0 : : :\nret\nfunc 1 : o o o : :\nret\n",
		"record 15 n b\nrecord 8 S01 n o\nrecord 4\nfriend 2\n" +
			"func 2 : : :\nret\nfunc 0 &n o !S11 : &S10 n !n : : 1\nret\nfunc 1 S12 : S12 : : 0 1\nret\nfunc 2 : : : 2\nret\n",
		"record 10 n\nrecord 1 n\nfunc 2 : : :\nret\nfunc 2 n : b : : 0\nret\n",
		strings.TrimSuffix(head, " ") + "\nret\n",
	} {
		module, ok := impl.ModuleRead(text)
		if !ok {
			panic("no module: " + text)
		}
		shelf = append(shelf, module)
	}
	shelf[m].Funcs[0] = shelf[3].Funcs[0]
	return shelf[:3]
}

// shapeOfText returns the shape with a text.
func shapeOfText(text string) impl.Shape {
	lists := [2][]impl.Mark{}
	at := 0
	for _, word := range strings.Fields(text) {
		if word == "|" {
			at = 1
			continue
		}
		things := strings.Split(word, ".")
		m := mark(strings.TrimPrefix(things[0], "-"))
		for _, from := range things[1:] {
			n, err := strconv.Atoi(from)
			if err != nil {
				panic("no shape: " + text)
			}
			m.From = append(m.From, n)
		}
		lists[at] = append(lists[at], m)
	}
	return impl.Shape{Stack: lists[0], Places: lists[1]}
}

// insOfText returns the instruction with a text.
func insOfText(text string) impl.Ins {
	for _, w := range wordsOfTable() {
		things := strings.Fields(text + " 0 0")
		a, _ := strconv.Atoi(things[1])
		b, _ := strconv.Atoi(things[2])
		if w.op == things[0] && w.textOfTable(a, b) == text {
			return impl.Ins{Op: w.op, A: a, B: b}
		}
	}
	panic("no instruction: " + text)
}

// A need is what the document tells of an instruction at a shape: which codes hold already, and what is needed, and put.
type need struct {
	place, own, call, end bool
	just                  bool     // whether the stack has just what is needed
	off                   []string // types that are needed, in order
	on                    []impl.Mark
	copied, dropped       []string // types of what is copied, and dropped or written over
	lent, written         []int    // origins that must not be lent, and not be lent to write
	empties               int      // a place that is empty then, or -1
	fills                 int      // a place into which what is taken off is put, or -1
}

// never is a type that no value has.
var never = []string{"?"}

// A stand is a shape at a function of a shelf.
type stand struct {
	shelf []impl.Module
	m, f  int
	s     impl.Shape
}

func (at stand) fn() impl.Func { return at.shelf[at.m].Funcs[at.f] }

// kinds are those of the shelf.
func (at stand) kinds() [][]impl.Record {
	kinds := [][]impl.Record{}
	for _, module := range at.shelf {
		kinds = append(kinds, module.Records)
	}
	return kinds
}

// can reports whether a type has an ability.
func (at stand) can(t string, able int) bool {
	return ableWanted(at.kinds(), t)/able%2 == 1
}

// top is the mark so many values below the last one; an empty one, if there is none.
func (at stand) top(below int) impl.Mark {
	if len(at.s.Stack) <= below {
		return mark("")
	}
	return at.s.Stack[len(at.s.Stack)-1-below]
}

// isRef reports whether a type is that of a reference.
func isRef(t string) bool { return strings.HasPrefix(t, "&") || strings.HasPrefix(t, "!") }

// ownKind is the kind with a number in the module.
func (at stand) ownKind(n int) string { return "S" + strconv.Itoa(at.m) + strconv.Itoa(n) }

// fixedNeeds are those of words that always need and put the same types.
func fixedNeeds() map[string]need {
	list := map[string]need{}
	for text, words := range map[string]string{
		"| n": "num", "| b": "true false", "| o": "me", "n n | n": "add sub mul div mod", "n n | b": "less",
		"b b | b": "and or", "b | b": "not", "b |": "zero", "n |": "fail", "|": "jump",
	} {
		s := shapeOfText(text)
		n := need{on: s.Places, empties: -1, fills: -1}
		for _, m := range s.Stack {
			n.off = append(n.off, m.Type)
		}
		for word := range strings.FieldsSeq(words) {
			list[word] = n
		}
	}
	return list
}

// fixedNeedsOnce are the fixedNeeds, which nothing changes.
var fixedNeedsOnce = sync.OnceValue(fixedNeeds)

// needOf tells by the document's words what is needed of an instruction at a shape.
func (at stand) needOf(i impl.Ins) need {
	if n, ok := fixedNeedsOnce()[i.Op]; ok {
		return n
	}
	n := need{empties: -1, fills: -1}
	switch i.Op {
	case "copy", "move", "put", "lend", "lendw":
		at.needOfPlace(i, &n)
	case "pack", "unpack", "keep", "take", "has", "see", "seew":
		at.needOfRecord(i, &n)
	case "field", "read", "peek", "freeze", "write", "same", "drop":
		at.needOfTop(i, &n)
	case "call":
		at.needOfCall(i, &n)
	case "ret":
		at.needOfRet(&n)
	}
	return n
}

func (at stand) needOfPlace(i impl.Ins, n *need) {
	types := slices.Concat(at.fn().Args, at.fn().Locals)
	n.place = i.A >= len(types) || i.Op != "put" && at.s.Places[i.A].Type == "" || strings.HasPrefix(i.Op, "lend") && isRef(at.s.Places[i.A].Type)
	if n.place {
		return
	}
	in := at.s.Places[i.A]
	switch i.Op {
	case "copy":
		n.on, n.copied = marks(in), []string{in.Type}
		if !isRef(in.Type) {
			n.written = []int{i.A}
		}
	case "move":
		n.on, n.lent, n.empties = marks(in), []int{i.A}, i.A
	case "put":
		n.off, n.fills = []string{types[i.A]}, i.A
		if in.Type != "" {
			n.dropped, n.lent = []string{in.Type}, []int{i.A}
		}
	case "lend":
		n.on, n.written = marks(mark("&"+in.Type, i.A)), []int{i.A}
	case "lendw":
		n.on, n.lent = marks(mark("!"+in.Type, i.A)), []int{i.A}
	}
}

func (at stand) needOfRecord(i impl.Ins, n *need) {
	records := at.shelf[at.m].Records
	n.own = i.A >= len(records)
	if n.own {
		return
	}
	kind := at.ownKind(i.A)
	kept := records[i.A].Able >= 8
	listed := slices.Contains(at.fn().Takes, i.A)
	switch i.Op {
	case "pack":
		n.off, n.on = records[i.A].Fields, marks(mark(kind))
	case "unpack":
		n.off = []string{kind}
		for _, field := range records[i.A].Fields {
			n.on = append(n.on, mark(field))
		}
	case "keep":
		n.own, n.off = !kept, []string{kind, "o"}
	case "has":
		n.own, n.off, n.on = !kept, []string{"o"}, marks(mark("b"))
	case "take":
		n.own, n.off, n.on, n.lent = !kept || !listed, []string{"o"}, marks(mark(kind)), []int{6 + i.A}
	case "see":
		n.own, n.off, n.on, n.written = !kept || !listed, []string{"o"}, marks(mark("&"+kind, 6+i.A)), []int{6 + i.A}
	case "seew":
		n.own, n.off, n.on, n.lent = !kept || !listed, []string{"o"}, marks(mark("!"+kind, 6+i.A)), []int{6 + i.A}
	}
}

func (at stand) needOfTop(i impl.Ins, n *need) {
	top := at.top(0)
	there := strings.TrimLeft(top.Type, "&!")
	n.off = []string{top.Type}
	switch {
	case top.Type == "":
		n.off = never
	case i.Op == "same":
		n.off, n.on = []string{top.Type, top.Type}, marks(mark("b"))
		if isRef(top.Type) || !at.can(top.Type, 2) {
			n.off = never
		}
	case i.Op == "drop":
		n.dropped = []string{top.Type}
	case i.Op == "write":
		n.off = []string{"!" + top.Type, top.Type}
		if below := at.top(1).Type; strings.HasPrefix(below, "!") {
			n.dropped = []string{below[1:]}
		}
	case i.Op == "field":
	case !isRef(top.Type) || i.Op == "freeze" && top.Type[0] != '!':
		n.off = never
	case i.Op == "read":
		n.on, n.copied = marks(mark(there)), []string{there}
	case i.Op == "peek":
		n.on, n.copied = marks(top, mark(there)), []string{there}
	case i.Op == "freeze":
		n.on = marks(mark("&"+there, top.From...))
	}
	if i.Op == "field" {
		records := at.shelf[at.m].Records
		n.own = i.B >= len(records) || i.A >= len(records[i.B].Fields)
		if !isRef(top.Type) || there != at.ownKind(i.B) {
			n.off = never
		} else if !n.own {
			n.on = marks(mark(top.Type[:1]+records[i.B].Fields[i.A], top.From...))
		}
	}
}

func (at stand) needOfCall(i impl.Ins, n *need) {
	n.call = !seenWanted(at.shelf, at.m, i.A, i.B)
	if n.call {
		return
	}
	called := at.shelf[i.A].Funcs[i.B]
	n.off = called.Args
	from := []int{}
	for k, t := range called.Args {
		if isRef(t) {
			from = append(from, at.top(len(called.Args)-1-k).From...)
		}
	}
	slices.Sort(from)
	for _, t := range called.Rets {
		if isRef(t) {
			n.on = append(n.on, mark(t, slices.Compact(slices.Clone(from))...))
		} else {
			n.on = append(n.on, mark(t))
		}
	}
	for _, record := range called.Takes {
		if i.A == at.m {
			n.call = n.call || !slices.Contains(at.fn().Takes, record)
			n.lent = append(n.lent, 6+record)
		}
	}
}

func (at stand) needOfRet(n *need) {
	n.off, n.just = at.fn().Rets, true
	for _, m := range at.s.Stack {
		n.end = n.end || isRef(m.Type) && !slices.Equal(m.From, []int{9})
		n.on = append(n.on, m)
	}
	for _, m := range at.s.Places {
		if m.Type != "" {
			n.dropped = append(n.dropped, m.Type)
		}
	}
}

// stackBad reports whether the stack has not the values that are needed.
func (at stand) stackBad(n need) bool {
	if len(at.s.Stack) < len(n.off) || n.just && len(at.s.Stack) > len(n.off) {
		return true
	}
	for k, t := range n.off {
		if at.s.Stack[len(at.s.Stack)-len(n.off)+k].Type != t {
			return true
		}
	}
	return false
}

// codesWanted tells by the document's words all codes that hold of an instruction at a shape, in order.
func (at stand) codesWanted(i impl.Ins) []int {
	n := at.needOf(i)
	able, lent := false, false
	for _, t := range n.copied {
		able = able || !at.can(t, 1)
	}
	for _, t := range n.dropped {
		able = able || !at.can(t, 2)
	}
	for _, from := range n.lent {
		is, _ := lentWanted(at.s, from)
		lent = lent || is
	}
	for _, from := range n.written {
		_, is := lentWanted(at.s, from)
		lent = lent || is
	}
	codes := []int{}
	for _, c := range []struct {
		holds bool
		code  int
	}{
		{n.place, impl.BadPlace}, {n.own, impl.BadOwn}, {n.call, impl.BadCall}, {at.stackBad(n), impl.BadStack},
		{able, impl.BadAble}, {lent, impl.BadLent}, {n.end, impl.BadEnd}, {len(at.s.Stack)-len(n.off)+len(n.on) > 12, impl.BadStack},
	} {
		if c.holds {
			codes = append(codes, c.code)
		}
	}
	return codes
}

// stepWanted tells by the document's words the shape behind an instruction at a shape, and the code.
func (at stand) stepWanted(i impl.Ins) (impl.Shape, int) {
	if codes := at.codesWanted(i); len(codes) > 0 {
		return impl.Shape{}, codes[0]
	}
	n := at.needOf(i)
	s := cloneShape(at.s)
	rest := len(s.Stack) - len(n.off)
	if n.fills >= 0 {
		s.Places[n.fills] = s.Stack[rest]
	}
	if n.empties >= 0 {
		s.Places[n.empties] = mark("")
	}
	s.Stack = append(s.Stack[:rest], cloneShape(impl.Shape{Stack: n.on}).Stack...)
	for _, list := range [][]impl.Mark{s.Stack, s.Places} {
		for k := range list {
			if !isRef(list[k].Type) {
				list[k].From = nil
			}
		}
	}
	return s, 0
}

// checkStep holds ShapeStep against what the document's words tell of it, and returns the code.
func (at stand) checkStep(t *testing.T, i impl.Ins) int {
	t.Helper()
	want, code := at.stepWanted(i)
	got, is := impl.ShapeStep(at.shelf, at.m, at.f, at.s, i)
	if is != code || !sameShape(got, want) {
		t.Errorf("ShapeStep of %v at %q of %v told %q %d, not %q %d", i, shapeTextWanted(at.s), at.fn(), impl.ShapeText(got), is, impl.ShapeText(want), code)
	}
	return is
}

func TestStepConstants(t *testing.T) {
	got := []int{impl.BadNone, impl.BadStack, impl.BadPlace, impl.BadAble, impl.BadLent, impl.BadOwn, impl.BadCall, impl.BadEnd, impl.BadJoin, impl.BadOut}
	if !slices.Equal(got, []int{0, 1, 2, 3, 4, 5, 6, 7, 8, 9}) {
		t.Errorf("the constants are %v", got)
	}
}

// stepsHead is the head of a function whose places are of all sorts, and which takes two records.
const stepsHead = "func 2 n &n !S10 : n : S10 S11 S12 : 0 1"

// placesFirst are the places of stepsHead at the first instruction.
const placesFirst = " | n &n.9 !S10.9 - - -"

// placesFull are the places of stepsHead, all full.
const placesFull = " | n &n.9 !S10.9 S10 S11 S12"

// standAt is the shape with a text at a function with a head: stepsHead if it is empty, and placesFirst if the text tells no places.
// The function is in the second module, or in that which the head tells ahead of a colon.
func standAt(head string, text string) stand {
	m := 1
	if number, rest, ok := strings.Cut(head, ": func"); ok {
		m, _ = strconv.Atoi(number)
		head = "func" + rest
	}
	if head == "" {
		head = stepsHead
	}
	if !strings.Contains(text, "|") {
		text += placesFirst
	}
	return stand{shelf: shelfSteps(m, head), m: m, s: shapeOfText(text)}
}

// A stepRow is an instruction at a shape of a function with a head (standAt), and the shape behind it.
type stepRow struct{ head, at, do, to string }

// stepsPlain are steps of words that always need the same types, and of those about records and about what is on the stack.
func stepsPlain() []stepRow {
	return []stepRow{
		{"", "", "num 0", "n"},
		{"", "S11", "num 1000000", "S11 n"},
		{"", "", "true", "b"},
		{"", "n", "false", "n b"},
		{"", "b", "me", "b o"},
		{"", "n n", "add", "n"},
		{"", "b n n", "sub", "b n"},
		{"", "n n n", "mul", "n n"},
		{"", "&n.9 n n", "div", "&n.9 n"},
		{"", "S12 n n", "mod", "S12 n"},
		{"", "n n n", "less", "n b"},
		{"", "n n", "same", "b"},
		{"", "n b b", "same", "n b"},
		{"", "o o", "same", "b"},
		{"", "S10 S10", "same", "b"},
		{"", "S02 S02", "same", "b"},
		{"", "S20 S20 S20", "same", "S20 b"},
		{"", "b b", "and", "b"},
		{"", "n b b", "or", "n b"},
		{"", "b", "not", "b"},
		{"", "n", "drop", ""},
		{"", "n S10", "drop", "n"},
		{"", "S11 &S11.6", "drop", "S11"},
		{"", "S11 !S11.6.9", "drop", "S11"},
		{"", "S20", "drop", ""},
		{"", "n b", "pack 0", "S10"},
		{"", "n S01 n o", "pack 1", "n S11"},
		{"", "", "pack 2", "S12"},
		{"", "n", "pack 2", "n S12"},
		{"0: func 0 : : : ", "S00 b |", "pack 1", "S01 |"},
		{"2: func 0 : : : ", "n |", "pack 0", "S20 |"},
		{"", "S10", "unpack 0", "n b"},
		{"", "n S11", "unpack 1", "n S01 n o"},
		{"", "S12", "unpack 2", ""},
		{"0: func 0 : : : ", "S01 |", "unpack 1", "S00 b |"},
		{"", "", "jump 0", ""},
		{"", "S11 b &n.0", "jump 39", "S11 b &n.0"},
		{"", "b", "zero 0", ""},
		{"", "n b", "zero 39", "n"},
		{"", "n", "fail", ""},
		{"", "S11 !n.0 n", "fail", "S11 !n.0"},
	}
}

// stepsPlaces are steps of words that need a place.
func stepsPlaces() []stepRow {
	return []stepRow{
		{"", placesFull, "copy 0", "n" + placesFull},
		{"", placesFull, "copy 1", "&n.9" + placesFull},
		{"", "b" + placesFull, "copy 3", "b S10" + placesFull},
		{"", "&n.0" + placesFull, "copy 0", "&n.0 n" + placesFull},
		{"", "!n.1" + placesFull, "copy 0", "!n.1 n" + placesFull},
		{"", "!n.1 | n &n.0.6.9 - - - -", "copy 1", "!n.1 &n.0.6.9 | n &n.0.6.9 - - - -"},
		{"", placesFull, "move 0", "n | - &n.9 !S10.9 S10 S11 S12"},
		{"", placesFull, "move 1", "&n.9 | n - !S10.9 S10 S11 S12"},
		{"", "&n.0" + placesFull, "move 2", "&n.0 !S10.9 | n &n.9 - S10 S11 S12"},
		{"", "!S10.0.6.9" + placesFull, "move 3", "!S10.0.6.9 S10 | n &n.9 !S10.9 - S11 S12"},
		{"", placesFull, "move 4", "S11 | n &n.9 !S10.9 S10 - S12"},
		{"", placesFull, "move 5", "S12 | n &n.9 !S10.9 S10 S11 -"},
		{"", "| n &n.9 !S10.3 S10 - -", "move 2", "!S10.3 | n &n.9 - S10 - -"},
		{"", "n", "put 0", ""},
		{"", "b n | - - - - - -", "put 0", "b | n - - - - -"},
		{"", "&n.0 | n &n.9 - - - -", "put 1", "| n &n.0 - - - -"},
		{"", "&n.6.9 | n - - - - -", "put 1", "| n &n.6.9 - - - -"},
		{"", "!S10.3 | - - !S10.9 S10 - -", "put 2", "| - - !S10.3 S10 - -"},
		{"", "S10" + placesFull, "put 3", placesFull},
		{"", "S11", "put 4", "| n &n.9 !S10.9 - S11 -"},
		{"", "S12", "put 5", "| n &n.9 !S10.9 - - S12"},
		{"", "!S11.4 !n.1 n" + placesFull, "put 0", "!S11.4 !n.1" + placesFull},
		{"", "&n.0 n | - - - - - -", "put 0", "&n.0 | n - - - - -"},
		{"", "!S11.4 S11 | - - - - - -", "put 4", "!S11.4 | - - - - S11 -"},
		{"", placesFull, "lend 0", "&n.0" + placesFull},
		{"", placesFull, "lend 3", "&S10.3" + placesFull},
		{"", placesFull, "lend 4", "&S11.4" + placesFull},
		{"", "n" + placesFull, "lend 5", "n &S12.5" + placesFull},
		{"", "&n.0 &n.0.9" + placesFull, "lend 0", "&n.0 &n.0.9 &n.0" + placesFull},
		{"", "!n.1" + placesFull, "lend 0", "!n.1 &n.0" + placesFull},
		{"", placesFull, "lendw 0", "!n.0" + placesFull},
		{"", placesFull, "lendw 3", "!S10.3" + placesFull},
		{"", "!n.0" + placesFull, "lendw 4", "!n.0 !S11.4" + placesFull},
		{"", "&n.6 n" + placesFull, "lendw 5", "&n.6 n !S12.5" + placesFull},
		{"func 0 : : n b : ", "| n b", "move 1", "b | n -"},
		{"func 0 b : : : ", "| b", "lendw 0", "!b.0 | b"},
	}
}

// stepsReferences are steps of words that take a reference off, or ask for a vault.
func stepsReferences() []stepRow {
	return []stepRow{
		{"", "&S10.0.9", "field 0 0", "&n.0.9"},
		{"", "!S10.3", "field 1 0", "!b.3"},
		{"", "n !S11.7", "field 0 1", "n !S01.7"},
		{"", "&S11.4", "field 2 1", "&o.4"},
		{"", "&n.9", "read", "n"},
		{"", "n !S10.6", "read", "n S10"},
		{"", "&S02.0.1", "read", "S02"},
		{"", "!S21.9", "read", "S21"},
		{"", "&n.0 !b.3", "peek", "&n.0 !b.3 b"},
		{"", "&S10.6.9", "peek", "&S10.6.9 S10"},
		{"", "!S21.9", "peek", "!S21.9 S21"},
		{"", "!n.0 n", "write", ""},
		{"", "b !S10.6 S10", "write", "b"},
		{"", "!S20.9 S20", "write", ""},
		{"", "&n.9 !o.9 o", "write", "&n.9"},
		{"", "!n.0.7.9", "freeze", "&n.0.7.9"},
		{"", "n !S11.7", "freeze", "n &S11.7"},
		{"", "S10 o", "keep 0", ""},
		{"", "o S11 o", "keep 1", "o"},
		{"", "!S10.6 &S11.7 S10 o", "keep 0", "!S10.6 &S11.7"},
		{"func 2 : : : ", "S11 o |", "keep 1", "|"},
		{"2: func 2 : : : ", "S20 o |", "keep 0", "|"},
		{"", "o", "take 0", "S10"},
		{"", "&S11.7 o", "take 0", "&S11.7 S10"},
		{"", "!S10.6 o", "take 1", "!S10.6 S11"},
		{"2: func 2 : : : 0", "o |", "take 0", "S20 |"},
		{"", "o", "has 0", "b"},
		{"", "!S11.7 o", "has 1", "!S11.7 b"},
		{"func 2 : : : ", "o |", "has 0", "b |"},
		{"", "o", "see 0", "&S10.6"},
		{"", "&S11.7 &n.7.9 o", "see 1", "&S11.7 &n.7.9 &S11.7"},
		{"", "!S11.7 o", "see 0", "!S11.7 &S10.6"},
		{"", "o", "seew 0", "!S10.6"},
		{"", "!S10.6 &n.0 o", "seew 1", "!S10.6 &n.0 !S11.7"},
		{"func 0 : : : 1", "!S10.6.8 o |", "seew 1", "!S10.6.8 !S11.7 |"},
	}
}

// stepsCalls are steps of the words call and ret.
func stepsCalls() []stepRow {
	return []stepRow{
		{"", "n S01", "call 0 0", "S00 b"},
		{"", "!S10.6 n S01", "call 0 0", "!S10.6 S00 b"},
		{"", "&n.0 !S00.9", "call 0 1", "&S00.0.9 !n.0.9 b"},
		{"", "&n.0.6.9 !S00.3.6", "call 0 1", "&S00.0.3.6.9 !n.0.3.6.9 b"},
		{"", "&n.9 !S00.0.3", "call 0 1", "&S00.0.3.9 !n.0.3.9 b"},
		{"", "b &n.8 !S00.2", "call 0 1", "b &S00.2.8 !n.2.8 b"},
		{"", "!n.7 &n.0 !S00.9", "call 0 1", "!n.7 &S00.0.9 !n.0.9 b"},
		{"", "&n !S00", "call 0 1", "&S00 !n b"},
		{"", "", "call 0 3", "o o o"},
		{"", "&n.0 o !S11.9", "call 1 1", "&S10.0.9 n !n.0.9"},
		{"", "!S10.6 &n.8 o !S11.9", "call 1 1", "!S10.6 &S10.8.9 n !n.8.9"},
		{"", "S12", "call 1 2", "S12"},
		{"", "!n.8 S12", "call 1 2", "!n.8 S12"},
		{"", "n &n.9 !S10.9", "call 1 0", "n"},
		{"func 0 : &n : : ", "|", "call 1 0", "&n |"},
		{"func 1 !n : &b !n &n : n : ", "!n.0.4.9 | !n.9 -", "call 1 0", "&b.0.4.9 !n.0.4.9 &n.0.4.9 | !n.9 -"},
		{"func 0 : : : 2", "!S12.7 |", "call 1 3", "!S12.7 |"},
		{"func 0 : : : ", "n S01 |", "call 0 0", "S00 b |"},
		{"2: func 0 : : : ", "S12 |", "call 1 2", "S12 |"},
		{"2: func 0 : : : ", "!S20.6 |", "call 1 3", "!S20.6 |"},
		{"2: func 0 : : : 0 1", "&n.7 n |", "call 2 1", "&n.7 b |"},
		{"0: func 0 : : : ", "|", "call 0 2", "|"},
		{"", "n", "ret", "n"},
		{"", "n | n &n.9 !S10.3 S10 - -", "ret", "n | n &n.9 !S10.3 S10 - -"},
		{"", "n | - - - - - -", "ret", "n | - - - - - -"},
		{"func 2 : : : ", "|", "ret", "|"},
		{"func 2 S11 : S11 S12 b : S10 : ", "S11 S12 b | - S10", "ret", "S11 S12 b | - S10"},
		{"func 2 &n !S11 : !S11 &n : : ", "!S11.9 &n.9 | &n.9 -", "ret", "!S11.9 &n.9 | &n.9 -"},
		{"func 2 &n : &n &n : n &n !n : ", "&n.9 &n.9 | &n.0 n &n.1.9 !n.6", "ret", "&n.9 &n.9 | &n.0 n &n.1.9 !n.6"},
	}
}

// upTo returns the text of a stack with numbers ahead, as many as it needs to have so many values.
func upTo(many int, stack string) string {
	return strings.Repeat("n ", many-len(strings.Fields(stack))) + stack
}

// stepsFull are steps behind which the stack is full, or nearly, and some at which it was so already.
func stepsFull() []stepRow {
	rows := []stepRow{}
	for _, row := range [][3]string{
		{"", "num 7", "n"}, {"", "true", "b"}, {"", "false", "b"}, {"", "me", "o"}, {"", "copy 3", "S10"}, {"", "lend 0", "&n.0"}, {"", "lendw 5", "!S12.5"},
		{"", "pack 2", "S12"}, {"S10", "unpack 0", "n b"}, {"S11", "unpack 1", "S01 n o"}, {"&n.9", "peek", "&n.9 n"}, {"", "call 0 3", "o o o"},
		{"&n.8 !S00.9", "call 0 1", "&S00.8.9 !n.8.9 b"}, {"b", "not", "b"}, {"o", "has 0", "b"}, {"o", "take 0", "S10"}, {"o", "see 1", "&S11.7"}, {"o", "seew 1", "!S11.7"},
		{"&S11.9", "field 0 1", "&S01.9"}, {"&n.9", "read", "n"}, {"!n.9", "freeze", "&n.9"}, {"S12", "call 1 2", "S12"}, {"", "jump 3", ""},
		{"n n", "add", "n"}, {"n n", "less", "b"}, {"b b", "and", "b"}, {"S10 S10", "same", "b"}, {"b", "drop", ""}, {"b", "zero 1", ""}, {"n", "fail", ""}, {"n", "put 0", ""},
		{"n b", "pack 0", "S10"}, {"S01 n o", "pack 1", "S11"}, {"S12", "unpack 2", ""}, {"!n.9 n", "write", ""}, {"S10 o", "keep 0", ""},
		{"n S01", "call 0 0", "S00 b"}, {"&n.9 o !S11.9", "call 1 1", "&S10.9 n !n.9"},
	} {
		less := len(strings.Fields(row[0])) - len(strings.Fields(row[2]))
		for many := 11; many <= 12; many++ {
			rows = append(rows, stepRow{"", upTo(many+less, row[0]) + placesFull, row[1], upTo(many, row[2]) + placesFull})
		}
	}
	return append(rows, stepRow{"", upTo(11, "") + placesFull, "move 4", upTo(12, "S11") + " | n &n.9 !S10.9 S10 - S12"})
}

// stepsDone are steps that can be.
func stepsDone() []stepRow {
	return slices.Concat(stepsPlain(), stepsPlaces(), stepsReferences(), stepsCalls(), stepsFull())
}

// TestStepsDone takes each word at shapes where it can be.
func TestStepsDone(t *testing.T) {
	seen := map[string]bool{}
	for _, row := range stepsDone() {
		at, i := standAt(row.head, row.at), insOfText(row.do)
		want := shapeTextWanted(standAt(row.head, row.to).s)
		got, code := impl.ShapeStep(at.shelf, at.m, 0, at.s, i)
		if code != impl.BadNone || impl.ShapeText(got) != want {
			t.Errorf("%s at %q of %q told %q %d, not %q", row.do, row.at, row.head, impl.ShapeText(got), code, want)
		}
		at.checkStep(t, i)
		seen[i.Op] = true
	}
	if len(seen) != len(wordsOfTable()) {
		t.Errorf("only the words %v were taken", seen)
	}
}

// A badRow is an instruction at a shape of a function with a head, and all codes that hold there, in order.
// Each code is told by a letter: Place, Own, Call, Stack, Able, Lent, End, and Full for a stack that would be too full.
type badRow struct{ head, at, do, letters string }

// codesOf are the codes that some letters tell.
func codesOf(letters string) []int {
	list := []int{}
	for _, letter := range letters {
		list = append(list, map[rune]int{'P': 2, 'O': 5, 'C': 6, 'S': 1, 'A': 3, 'L': 4, 'E': 7, 'F': 1}[letter])
	}
	return list
}

// checkBad holds ShapeStep against the first code of each row, and the codes against what the document's words tell.
func checkBad(t *testing.T, rows []badRow) {
	t.Helper()
	for _, row := range rows {
		at, i := standAt(row.head, row.at), insOfText(row.do)
		want := codesOf(row.letters)
		got, code := impl.ShapeStep(at.shelf, at.m, 0, at.s, i)
		if code != want[0] || !sameShape(got, impl.Shape{}) {
			t.Errorf("%s at %q of %q told %q %d, not %d", row.do, row.at, row.head, impl.ShapeText(got), code, want[0])
		}
		if list := at.codesWanted(i); !slices.Equal(list, want) {
			t.Errorf("of %s at %q of %q the codes %v hold, not %v", row.do, row.at, row.head, list, want)
		}
	}
}

// stacksBad are stacks at which an instruction has not what it needs, where the function is that of stepsHead.
func stacksBad() map[string][]string {
	return map[string][]string{
		"add":       {"", "n", "b n", "n b", "n n b", "n S10", "n &n.9", "!n.9 n", "o o"},
		"sub":       {"", "n", "b n", "n b"},
		"mul":       {"", "n", "b n", "n b"},
		"div":       {"", "n", "b n", "n b"},
		"mod":       {"", "n", "b n", "n b"},
		"less":      {"", "n", "b n", "n b", "b b"},
		"same":      {"", "n", "n b", "b n", "n n b", "S10 S20", "&n.9 &n.9", "!n.9 !n.9", "n &n.9", "&n.9 n", "S11 S11", "S12 S12", "S01 S01", "S21 S21", "S11 S10"},
		"and":       {"", "b", "n b", "b n", "n n"},
		"or":        {"", "b", "n b", "b n", "n n"},
		"not":       {"", "n", "b n", "&b.9", "S10"},
		"put 0":     {"", "b", "n b", "&n.9", "S10"},
		"put 1":     {"", "n", "!n.9", "&b.9", "b", "&S10.9"},
		"put 2":     {"", "S10", "&S10.9", "!S11.9", "!n.9"},
		"put 3":     {"", "n", "S11", "&S10.9", "!S10.9", "S00"},
		"put 4":     {"", "n", "S10", "&S11.9"},
		"put 5":     {"", "S10 n"},
		"drop":      {""},
		"pack 0":    {"", "n", "b", "b n", "n b n", "n &b.9", "S10"},
		"pack 1":    {"", "n o", "o n S01", "S01 n", "S01 o n", "S00 n o", "S01 n o o"},
		"unpack 0":  {"", "n", "S11", "&S10.9", "!S10.9", "S10 n", "S00", "n b"},
		"unpack 1":  {"", "S10", "S01", "S01 n o"},
		"unpack 2":  {"", "S10", "S02"},
		"field 0 0": {"", "S10", "&S11.9", "&S00.9", "&n.9", "!S20.9", "&S10.9 n", "n"},
		"field 2 1": {"", "&S10.9", "!S01.9", "S11"},
		"read":      {"", "n", "S10", "&n.9 n", "S12"},
		"peek":      {"", "n", "S10", "!n.9 b"},
		"write":     {"", "n", "!n.9", "n !n.9", "&n.9 n", "!b.9 n", "!n.9 b", "n n", "!S10.9 S00", "!n.9 n n", "!n.9 !n.9", "!n.9 &n.9"},
		"freeze":    {"", "n", "&n.9", "S10", "!n.9 &n.9", "!n.9 n"},
		"keep 0":    {"", "o", "S10", "o S10", "S11 o", "S10 n", "&S10.9 o", "S10 &o.9", "n o"},
		"keep 1":    {"", "S10 o", "o S11"},
		"take 0":    {"", "n", "b", "o n", "&o.9", "S10"},
		"take 1":    {"", "S11", "!o.9"},
		"has 0":     {"", "n", "S10", "o S10", "&o.9"},
		"has 1":     {"", "b"},
		"see 0":     {"", "n", "o b", "&S10.9"},
		"see 1":     {"", "S11"},
		"seew 0":    {"", "n", "o b", "!o.9"},
		"seew 1":    {"", "S10"},
		"zero 0":    {"", "n", "b n", "&b.9", "o"},
		"fail":      {"", "b", "n b", "&n.9", "o"},
		"call 0 0":  {"", "n", "S01", "S01 n", "n S01 n", "b S01", "n S00"},
		"call 0 1":  {"", "&n.9", "!S00.9 &n.9", "&n.9 &S00.9", "!n.9 !S00.9", "&n.9 !S10.9", "n S00"},
		"call 1 1":  {"", "o !S11.9", "n o !S11.9", "&n.9 !S11.9 o", "&n.9 o !S11.9 b"},
		"call 1 2":  {"", "S11", "n"},
		"call 1 0":  {"", "n &n.9 !S11.9", "n &n.9"},
		"ret":       {"", "b", "n n", "b n", "n b", "&n.9", "S10"},
	}
}

// TestStepsBadStack takes stacks that have not what is needed, where no other code holds.
func TestStepsBadStack(t *testing.T) {
	rows := []badRow{}
	for do, stacks := range stacksBad() {
		for _, stack := range stacks {
			rows = append(rows, badRow{"", stack, do, "S"})
		}
	}
	for head, list := range map[string][]string{
		"func 2 : : : ":               {"n |", "&n.9 |", "S11 |", "n n |"},
		"func 2 : n b : : ":           {"|", "n |", "b |", "b n |", "n b b |", "n n b |"},
		"func 2 &n : &n : : ":         {"| -", "n | &n.9", "!n.9 | -", "&b.9 | -", "&n.9 &n.9 | &n.9"},
		"func 2 : S11 S12 S01 : : ":   {"|", "S11 S12 |", "S12 S11 S01 |", "S11 S12 S01 n |"},
		"func 2 &n !n : !n &n n : : ": {"&n.9 !n.9 n | - -", "!n.9 &n.9 | - -", "n &n.9 !n.9 | - -"},
	} {
		for _, at := range list {
			rows = append(rows, badRow{head, at, "ret", "S"})
		}
	}
	checkBad(t, rows)
}

// TestStepsBadFull takes stacks that would be too full: from so many values on there is no room.
func TestStepsBadFull(t *testing.T) {
	rows := []badRow{}
	for do, need := range map[string]struct {
		stack string
		many  int
	}{
		"num 0": {"", 12}, "true": {"", 12}, "false": {"", 12}, "me": {"", 12}, "copy 0": {"", 12}, "copy 1": {"", 12}, "move 4": {"", 12}, "move 2": {"", 12},
		"pack 2": {"", 12}, "unpack 0": {"S10", 12}, "unpack 1": {"S11", 11}, "lend 3": {"", 12}, "lendw 4": {"", 12}, "peek": {"&n.9", 12},
		"call 0 3": {"", 10}, "call 0 1": {"&n.9 !S00.9", 12}, "jump 0": {"", 13}, "add": {"n n", 14}, "same": {"o o", 14}, "not": {"b", 13}, "zero 1": {"b", 14}, "fail": {"n", 14},
		"drop": {"n", 14}, "put 0": {"n", 14}, "pack 0": {"n b", 14}, "pack 1": {"S01 n o", 15}, "unpack 2": {"S12", 14}, "field 0 0": {"&S10.9", 13}, "read": {"&n.9", 13},
		"write": {"!n.9 n", 15}, "freeze": {"!n.9", 13}, "keep 1": {"S11 o", 15}, "take 1": {"o", 13}, "has 0": {"o", 13}, "see 1": {"o", 13}, "seew 0": {"o", 13}, "call 1 2": {"S12", 13},
	} {
		for _, more := range []int{0, 1, 2, 30} {
			rows = append(rows, badRow{"", upTo(need.many+more, need.stack) + placesFull, do, "F"})
		}
	}
	checkBad(t, rows)
}

// TestStepsBadPlace takes places that are none, empty, or, to be lent, no plain ones, where no other code holds.
func TestStepsBadPlace(t *testing.T) {
	rows := []badRow{}
	for _, do := range []string{"copy", "move", "lend", "lendw"} {
		for place := range 6 {
			rows = append(rows, badRow{"", "n | - - - - - -", do + " " + strconv.Itoa(place), "P"})
		}
		rows = append(rows, badRow{"", "", do + " 3", "P"}, badRow{"", "n | n - - - - -", do + " 1", "P"}, badRow{"func 0 : : n : ", "| -", do + " 0", "P"})
	}
	for _, do := range []string{"copy", "move", "put", "lend", "lendw"} {
		rows = append(rows, badRow{"func 0 : : : ", "n |", do + " 0", "P"}, badRow{"func 0 : : : ", "n |", do + " 5", "P"}, badRow{"func 0 n : : b : ", "n b | n b", do + " 2", "P"},
			badRow{"func 0 n n n : : b b : ", "b | n n n b b", do + " 5", "P"}, badRow{"func 0 n n n : : b b : ", "b | n n n b -", do + " 5", "P"})
	}
	for _, do := range []string{"lend", "lendw"} {
		rows = append(rows, badRow{"", placesFull, do + " 1", "P"}, badRow{"", placesFull, do + " 2", "P"}, badRow{"", "| - &n.0.6 - - - -", do + " 1", "P"})
	}
	checkBad(t, rows)
}

// TestStepsBadOwn takes records and fields that are none, or may not be touched, where no other code holds.
func TestStepsBadOwn(t *testing.T) {
	rows := []badRow{}
	for head, list := range map[string][][2]string{
		"":                   {{"&S10.9", "field 2 0"}, {"!S10.9", "field 2 0"}, {"&S12.9", "field 0 2"}, {"!S12.9", "field 2 2"}, {"S12 o", "keep 2"}, {"o", "has 2"}, {"o", "take 2"}, {"o", "see 2"}, {"o", "seew 2"}},
		"func 2 : : : 0 1 2": {{"S12 o |", "keep 2"}, {"o |", "has 2"}, {"o |", "take 2"}, {"o |", "see 2"}, {"o |", "seew 2"}},
		"func 2 : : : ":      {{"o |", "take 0"}, {"o |", "see 0"}, {"o |", "seew 0"}, {"o |", "take 1"}, {"o |", "see 1"}, {"o |", "seew 1"}},
		"func 2 : : : 0 2":   {{"o |", "take 1"}, {"o |", "see 1"}, {"o |", "seew 1"}},
		"func 2 : : : 1 2":   {{"o |", "take 0"}, {"o |", "see 0"}, {"o |", "seew 0"}},
		"2: func 2 : : : 0 1": {
			{"|", "pack 2"}, {"n n |", "pack 2"}, {"|", "unpack 2"}, {"S20 |", "unpack 2"}, {"S02 |", "unpack 2"}, {"S12 |", "unpack 2"},
			{"S20 o |", "keep 2"}, {"o |", "has 2"}, {"o |", "take 2"}, {"o |", "see 2"}, {"o |", "seew 2"},
			{"S21 o |", "keep 1"}, {"o |", "has 1"}, {"o |", "take 1"}, {"o |", "see 1"}, {"o |", "seew 1"}, {"&S20.9 |", "field 1 0"}, {"!S21.9 |", "field 2 1"},
		},
		"0: func 2 : : : 0 1 2": {{"S02 o |", "keep 2"}, {"o |", "has 2"}, {"o |", "take 2"}, {"o |", "see 2"}, {"o |", "seew 2"}},
	} {
		for _, row := range list {
			rows = append(rows, badRow{head, row[0], row[1], "O"})
		}
	}
	checkBad(t, rows)
}

// TestStepsBadCall takes functions that may not be called, or take what is not taken, where no other code holds.
func TestStepsBadCall(t *testing.T) {
	rows := []badRow{}
	for head, list := range map[string][][2]string{
		"":                      {{"", "call 0 2"}, {"", "call 1 3"}, {"", "call 2 0"}, {"n", "call 2 1"}, {"", "call 2 2"}, {"", "call 2 3"}},
		"func 2 : : : ":         {{"S12 |", "call 1 2"}, {"&n.9 o !S11.9 |", "call 1 1"}},
		"func 2 : : : 0 2":      {{"S12 |", "call 1 2"}, {"&n.9 o !S11.9 |", "call 1 1"}},
		"func 2 : : : 1 2":      {{"S12 |", "call 1 2"}},
		"2: func 2 : : : 0 1":   {{"|", "call 0 3"}, {"&n.9 !S00.9 |", "call 0 1"}, {"&n.9 o !S11.9 |", "call 1 1"}, {"|", "call 0 2"}, {"|", "call 2 2"}, {"|", "call 2 3"}},
		"2: func 2 : : : 1":     {{"n |", "call 2 1"}},
		"2: func 2 : : : ":      {{"n |", "call 2 1"}},
		"0: func 2 : : : 0 1 2": {{"|", "call 1 3"}, {"|", "call 2 0"}, {"S12 |", "call 1 2"}},
		"0: func 2 : : : 0 2":   {{"&n.9 !S00.9 |", "call 0 1"}},
		"0: func 2 : : : 1 2":   {{"n |", "call 2 1"}},
	} {
		for _, row := range list {
			rows = append(rows, badRow{head, row[0], row[1], "C"})
		}
	}
	checkBad(t, rows)
}

// TestStepsBadAble takes what can neither be copied nor dropped, or not both, where no other code holds.
func TestStepsBadAble(t *testing.T) {
	checkBad(t, []badRow{
		{"", placesFull, "copy 2", "A"},
		{"", placesFull, "copy 4", "A"},
		{"", placesFull, "copy 5", "A"},
		{"2: func 2 S20 !n : : S21 : ", "| S20 !n.9 -", "copy 0", "A"},
		{"2: func 2 S20 !n : : S21 : ", "| S20 !n.9 -", "copy 1", "A"},
		{"", "S11" + placesFull, "put 4", "A"},
		{"", "S12" + placesFull, "put 5", "A"},
		{"2: func 2 S20 : : S21 : ", "S21 | - S21", "put 1", "A"},
		{"", "S11", "drop", "A"},
		{"", "n S12", "drop", "A"},
		{"", "S01", "drop", "A"},
		{"", "S21", "drop", "A"},
		{"", "&S11.9", "read", "A"},
		{"", "!S12.9", "read", "A"},
		{"", "&S01.9", "read", "A"},
		{"", "&S20.9", "read", "A"},
		{"", "&S11.9", "peek", "A"},
		{"", "!S20.9", "peek", "A"},
		{"", "!S11.9 S11", "write", "A"},
		{"", "!S12.9 S12", "write", "A"},
		{"", "!S21.9 S21", "write", "A"},
		{"", "!S01.9 S01", "write", "A"},
		{"", "n | - - - - S11 -", "ret", "A"},
		{"", "n | n - - - - S12", "ret", "A"},
		{"", "n" + placesFull, "ret", "A"},
		{"func 2 S01 : : : ", "| S01", "ret", "A"},
		{"2: func 2 S21 : &n : : ", "&n.9 | S21", "ret", "A"},
	})
}

// TestStepsBadLent takes places and records that are lent, on the stack and in places, to read and to write, where no other code holds.
func TestStepsBadLent(t *testing.T) {
	rows := []badRow{}
	add := func(at string, words ...string) {
		for _, do := range words {
			rows = append(rows, badRow{"", at, do, "L"})
		}
	}
	add("&n.0", "move 0", "lendw 0")
	add("!n.0", "move 0", "lendw 0", "copy 0", "lend 0")
	add("&n.0 n", "put 0")
	add("!n.0 n", "put 0")
	add("| n &n.0 - - - -", "move 0", "lendw 0")
	add("n | n &n.0.9 - - - -", "put 0")
	add("| n - !S10.0.3 S10 - -", "copy 0", "copy 3", "lend 0", "lend 3", "lendw 0", "lendw 3", "move 0", "move 3")
	add("n | n - !S10.0.3 S10 - -", "put 0")
	add("S10 | n - !S10.0.3 S10 - -", "put 3")
	add("&S11.4 &S12.4.5"+placesFull, "move 4", "move 5", "lendw 4", "lendw 5")
	add("!S01.4"+placesFull, "move 4", "lend 4", "lendw 4")
	add("&n.2 !n.1"+placesFull, "move 1", "move 2")
	add("&n.1 &n.9"+placesFull, "put 1")
	add("&S10.6 o", "take 0", "seew 0")
	add("!S10.6 o", "take 0", "seew 0", "see 0")
	add("&n.7 o", "take 1", "seew 1")
	add("!n.6.7.9 o", "take 0", "take 1", "seew 0", "seew 1", "see 0", "see 1")
	add("o | n &n.6 - - - -", "take 0", "seew 0")
	add("o | n - !S10.7 - - -", "take 1", "seew 1", "see 1")
	add("&n.7 o !S11.9", "call 1 1")
	add("&n.9 o !S11.7", "call 1 1")
	add("&n.9 o !S11.6.7", "call 1 1")
	add("&b.7 &n.9 o !S11.9", "call 1 1")
	add("!b.7 &n.9 o !S11.9", "call 1 1")
	add("&n.9 o !S11.9 | - &n.7 - - - -", "call 1 1")
	add("&n.6 S12", "call 1 2")
	add("!n.7 S12", "call 1 2")
	add("S12 | - - !S10.6.7 - - -", "call 1 2")
	add("n &n.6 !S10.9", "call 1 0")
	add("n &n.9 !S10.7", "call 1 0")
	rows = append(rows, badRow{"func 2 : : : 2", "&n.8 |", "call 1 3", "L"}, badRow{"2: func 2 : : : 0 1", "&n.6 n |", "call 2 1", "L"})
	checkBad(t, rows)
}

// TestStepsBadEnd takes results that are references from elsewhere than outside alone, where no other code holds.
func TestStepsBadEnd(t *testing.T) {
	rows := []badRow{}
	for _, from := range []string{".0", ".1", ".5", ".6", ".8", ".0.9", ".8.9", ".0.6.9", ".0.1", ""} {
		rows = append(rows, badRow{"func 2 : &n : : ", "&n" + from + " |", "ret", "E"}, badRow{"func 2 : !S11 : : ", "!S11" + from + " |", "ret", "E"},
			badRow{"func 2 n : &n n !b : : ", "&n.9 n !b" + from + " | n", "ret", "E"}, badRow{"func 2 n : &n n !b : &n : ", "&n" + from + " n !b.9 | - &n.9", "ret", "E"})
	}
	checkBad(t, rows)
}

// TestStepsBadTwo takes instructions at shapes where several codes hold.
func TestStepsBadTwo(t *testing.T) {
	full := upTo(12, "") + placesFirst
	checkBad(t, []badRow{
		{"", full, "copy 2", "AF"},
		{"", upTo(13, "") + " | n - - - - -", "copy 1", "PF"},
		{"func 0 : : : ", "|", "put 0", "P"},
		{"", "!S11.4" + placesFull, "copy 4", "AL"},
		{"", upTo(12, "!S11.4") + placesFull, "copy 4", "ALF"},
		{"", upTo(12, "!n.0"), "copy 0", "LF"},
		{"", upTo(12, "&n.0"), "move 0", "LF"},
		{"", upTo(12, "!n.0"), "lend 0", "LF"},
		{"", upTo(12, "&n.0"), "lendw 0", "LF"},
		{"", "b &n.0", "put 0", "SL"},
		{"", "n" + placesFull, "put 4", "SA"},
		{"", "&S11.4 S11" + placesFull, "put 4", "AL"},
		{"", "S11 &S11.4" + placesFull, "put 4", "SAL"},
		{"", upTo(14, "S11") + placesFull, "put 4", "AF"},
		{"", upTo(14, "!n.0 n"), "put 0", "LF"},
		{"", "", "field 2 0", "OS"},
		{"", "&S11.9", "field 2 0", "OS"},
		{"", "n", "field 0 2", "OS"},
		{"", "", "keep 2", "OS"},
		{"", "", "has 2", "OS"},
		{"", "n", "take 2", "OS"},
		{"", "&S12.8 o", "take 2", "OL"},
		{"", "!S12.8 b", "see 2", "OSL"},
		{"", "&S12.8 b", "seew 2", "OSL"},
		{"func 2 : : : 0", "&S11.7 o |", "take 1", "OL"},
		{"func 2 : : : 0", "!S11.7 o |", "see 1", "OL"},
		{"func 2 : : : 0", "&S11.7 |", "seew 1", "OSL"},
		{"", "&S10.6", "take 0", "SL"},
		{"", "o !S10.6", "see 0", "SL"},
		{"", "&S10.6", "seew 0", "SL"},
		{"", upTo(13, "&S10.6 o"), "take 0", "LF"},
		{"", upTo(13, "!S10.6 o"), "see 0", "LF"},
		{"", upTo(13, "&S10.6 o"), "seew 0", "LF"},
		{"", upTo(12, "&S11.9"), "peek", "AF"},
		{"", upTo(13, "&S11.9"), "read", "AF"},
		{"", upTo(14, "S11"), "drop", "AF"},
		{"", "!S11.9 n", "write", "SA"},
		{"", upTo(15, "!S11.9 S11"), "write", "AF"},
		{"func 2 : : : ", "n |", "call 1 2", "CS"},
		{"func 2 : : : ", "&n.6 S12 |", "call 1 2", "CL"},
		{"func 2 : : : 0", "!n.7 |", "call 1 2", "CSL"},
		{"", "&n.8", "call 1 3", "CL"},
		{"", "n &n.6", "call 1 2", "SL"},
		{"", "!n.7", "call 1 1", "SL"},
		{"", upTo(13, "&n.6 S12"), "call 1 2", "LF"},
		{"", upTo(13, ""), "call 1 3", "CF"},
		{"", placesFull, "ret", "SA"},
		{"", "n n" + placesFull, "ret", "SA"},
		{"func 2 : &n : : ", "&n.0 n |", "ret", "SE"},
		{"func 2 : &n : : ", "!n.0 |", "ret", "SE"},
		{"func 2 S11 : &n : : ", "&n.0 | S11", "ret", "AE"},
		{"func 2 S11 : &n : : ", "&n.0 &n.9 | S11", "ret", "SAE"},
		{"func 2 S11 : &n : : ", upTo(13, "&n.0") + " | S11", "ret", "SAEF"},
		{"func 2 : : : ", upTo(13, "") + " |", "ret", "SF"},
	})
}

// pick returns one of some things, by chance.
func pick[T any](r *rand.Rand, things []T) T { return things[r.Intn(len(things))] }

// someMark returns a mark of a type, by chance: a reference has origins, of which there are often none or one.
func someMark(r *rand.Rand, t string) impl.Mark {
	m := mark(t)
	if isRef(t) {
		m.From = someAscending(r, 0, 10)
		m.From = m.From[:min(len(m.From), r.Intn(3))]
		if r.Intn(3) == 0 {
			m.From = []int{9}
		}
	}
	return m
}

// typesOf are all types of the kinds of a shelf.
func (at stand) typesOf() []string {
	types := []string{"n", "b", "o"}
	for m, records := range at.kinds() {
		for k := range records {
			types = append(types, "S"+strconv.Itoa(m)+strconv.Itoa(k))
		}
	}
	for _, t := range slices.Clone(types) {
		types = append(types, "&"+t, "!"+t)
	}
	return types
}

// typesFor are types by which an instruction may find what it needs on the stack, by chance.
func (at stand) typesFor(r *rand.Rand, i impl.Ins) []string {
	types := at.typesOf()
	plain := types[:len(types)/3]
	t, sign := pick(r, plain), pick(r, []string{"&", "!"})
	switch i.Op {
	case "same":
		return []string{t, t}
	case "drop":
		return []string{pick(r, types)}
	case "field":
		return []string{sign + at.ownKind(i.B)}
	case "read", "peek":
		return []string{sign + t}
	case "write":
		return []string{"!" + t, t}
	case "freeze":
		return []string{"!" + t}
	}
	return at.needOf(i).off
}

// someShape returns a shape at which an instruction often can be, by chance.
func (at stand) someShape(r *rand.Rand, i impl.Ins) impl.Shape {
	types := at.typesOf()
	isNone := func(t string) bool { return !slices.Contains(types, t) }
	at.s = impl.Shape{}
	for _, t := range slices.Concat(at.fn().Args, at.fn().Locals) {
		at.s.Places = append(at.s.Places, someMark(r, pick(r, []string{t, t, t, "", pick(r, types)})))
	}
	if i.Op != "ret" || r.Intn(5) == 0 {
		for range pick(r, []int{0, 0, 1, 2, 3, 7, 8, 9, 10, 11, 12, 13}) {
			at.s.Stack = append(at.s.Stack, someMark(r, pick(r, append(types[:4:4], pick(r, types)))))
		}
	}
	if r.Intn(4) == 0 {
		at.s.Stack = append(at.s.Stack, mark(pick(r, []string{"&n", "!b"}), pick(r, []int{i.A, 6 + i.A%3, 6 + r.Intn(3)})))
	}
	if needed := at.typesFor(r, i); r.Intn(6) > 0 && !slices.ContainsFunc(needed, isNone) {
		for _, t := range needed {
			at.s.Stack = append(at.s.Stack, someMark(r, t))
		}
	}
	return at.s
}

// standsSome are functions of shelves, with an instruction and a shape, by chance, always the same ones.
func standsSome(seed int64, many int, do func(r *rand.Rand, at stand, i impl.Ins)) {
	r := rand.New(rand.NewSource(seed))
	shelves := shelvesSome(300)
	heads := []string{stepsHead, "func 1 S01 &S10 : &n n : S12 !n : 1", "func 0 : : n b o S10 : 0 1 2", "func 2 &n !S11 : !S11 &n : S10 : 0"}
	for range 300 {
		shelves = append(shelves, shelfSteps(1, pick(r, heads)))
	}
	shelves = slices.DeleteFunc(shelves, func(shelf []impl.Module) bool {
		return !slices.ContainsFunc(shelf, func(m impl.Module) bool { return len(m.Funcs) > 0 })
	})
	for range many {
		at := stand{shelf: pick(r, shelves)}
		for at.m = r.Intn(len(at.shelf)); len(at.shelf[at.m].Funcs) == 0; {
			at.m = r.Intn(len(at.shelf))
		}
		at.f = r.Intn(len(at.shelf[at.m].Funcs))
		w := pick(r, wordsOfTable())
		i := impl.Ins{Op: w.op, A: r.Intn(w.a + 1), B: r.Intn(w.b + 1)}
		if w.op == "call" && r.Intn(2) == 0 {
			i.A = at.m
		}
		at.s = at.someShape(r, i)
		do(r, at, i)
	}
}

// codesOfWords are, by the document's words, the codes that each word can be answered with alone; a stack may be too full from the start.
func codesOfWords() map[string][]int {
	list := map[string][]int{}
	for letters, words := range map[string]string{
		"S": "num true false me add sub mul div mod less same and or not freeze jump zero fail", "OS": "pack unpack field keep has", "SA": "drop read peek write",
		"PSAL": "copy put", "PSL": "move lend lendw", "OSL": "take see seew", "CSL": "call", "SAE": "ret",
	} {
		for word := range strings.FieldsSeq(words) {
			list[word] = append(codesOf(letters), 0)
		}
	}
	return list
}

// TestStepsMany takes all words at shapes by chance, where each word finds each code that it can be answered with alone.
func TestStepsMany(t *testing.T) {
	alone := map[string]map[int]int{}
	several := 0
	standsSome(61, 40000, func(r *rand.Rand, at stand, i impl.Ins) {
		code := at.checkStep(t, i)
		if list := at.codesWanted(i); len(list) > 1 {
			several++
			return
		}
		if alone[i.Op] == nil {
			alone[i.Op] = map[int]int{}
		}
		alone[i.Op][code]++
	})
	if several < 2500 {
		t.Errorf("only %d times several codes held", several)
	}
	for word, list := range codesOfWords() {
		for code, many := range alone[word] {
			if !slices.Contains(list, code) {
				t.Errorf("%s was answered %d times with the code %d", word, many, code)
			}
		}
		for _, code := range list {
			if alone[word][code] < 3 {
				t.Errorf("%s was answered only %d times with the code %d alone", word, alone[word][code], code)
			}
		}
	}
}

// TestStepsOneByOne goes from the first shape on, step by step, as long as instructions can be.
func TestStepsOneByOne(t *testing.T) {
	c := tally{}
	longest := 0
	standsSome(62, 600, func(r *rand.Rand, at stand, i impl.Ins) {
		at.s, _ = firstWanted(at.shelf, at.m, at.f)
		done := 0
		for range 60 {
			w := pick(r, wordsOfTable())
			i := impl.Ins{Op: w.op, A: r.Intn(w.a + 1), B: r.Intn(w.b + 1)}
			code := at.checkStep(t, i)
			c.count(code == impl.BadNone)
			if code == impl.BadNone {
				at.s, _ = impl.ShapeStep(at.shelf, at.m, at.f, at.s, i)
				done++
			}
		}
		longest = max(longest, done)
	})
	c.enough(t, 5000, 5000)
	if longest < 20 {
		t.Errorf("no way was longer than %d", longest)
	}
}

// ableTo tells by the document's words which words can be at a shape.
func (at stand) ableTo() []string {
	words := []string{}
	for _, w := range wordsOfTable() {
		switch w.op {
		case "num", "jump", "zero":
			w.a = 0
		}
		can := false
		for a := 0; a <= w.a; a++ {
			for b := 0; b <= w.b; b++ {
				can = can || len(at.codesWanted(impl.Ins{Op: w.op, A: a, B: b})) == 0
			}
		}
		if can {
			words = append(words, w.op)
		}
	}
	return words
}

// TestShapeAble takes shapes at which nearly nothing, and nearly all can be.
func TestShapeAble(t *testing.T) {
	always := "num true false me "
	for _, row := range [][3]string{
		{"func 2 : : : ", "|", always + "pack jump call ret"},
		{"2: func 2 : : : ", "|", always + "call jump ret"},
		{"0: func 2 : n : : ", "|", always + "jump call"},
		{"func 2 n : : : ", "| -", always + "pack jump call ret"},
		{"func 2 n : : n : ", "| n -", always + "copy move pack lend lendw jump call ret"},
		{"", upTo(12, "") + placesFirst, "add sub mul div mod less same put drop jump fail"},
		{"", upTo(11, "") + placesFirst, always + "add sub mul div mod less same copy move put drop pack lend lendw jump fail"},
		{"", upTo(13, ""), "add sub mul div mod less same put drop fail"},
		{"", upTo(14, ""), ""},
		{"", upTo(14, "S01 n o"), "pack"},
		{"", upTo(12, "S12") + placesFull, "unpack jump call"},
		{"", upTo(12, "o"), "drop has take see seew jump"},
		{"", upTo(12, "!n.6.7 o") + placesFull, "drop has jump"},
		{"", upTo(12, "&n.6.7 o") + placesFull, "drop has see jump"},
		{"func 2 : : : ", upTo(12, "o") + " |", "drop has jump call"},
		{"", upTo(12, "S11 o"), "drop keep has take see seew jump"},
		{"", upTo(12, "b"), "not drop pack jump zero"},
		{"", upTo(12, "b b"), "same and or not drop jump zero"},
		{"", upTo(12, "n b"), "not drop pack jump zero"},
		{"", upTo(12, "!S10.0 S10") + " | - - - - - -", "put drop write jump"},
		{"", upTo(12, "!S10.0") + " | - - - - - -", "put drop field read freeze jump"},
		{"", upTo(12, "&S11.0") + " | - - - - - -", "drop field jump"},
		{"", upTo(12, "S11") + placesFull, "jump"},
		{"func 2 S11 : : : ", upTo(12, "S10") + " | -", "drop jump"},
		{"", "| - - - - - -", always + "pack jump call"},
		{"", "n | - - - - - -", always + "put drop pack jump call ret fail"},
	} {
		at := standAt(row[0], row[1])
		words := at.ableTo()
		got := impl.ShapeAble(at.shelf, at.m, at.f, at.s)
		if !slices.Equal(got, words) {
			t.Errorf("ShapeAble at %q of %q told %v, not %v", row[1], row[0], got, words)
		}
		if want := strings.Fields(row[2]); !slices.Equal(slices.Sorted(slices.Values(words)), slices.Sorted(slices.Values(want))) {
			t.Errorf("ShapeAble at %q of %q should tell %v, not %v", row[1], row[0], words, want)
		}
	}
}

// TestShapeAbleNumbers holds that a word can be if it can be with its last numbers alone.
func TestShapeAbleNumbers(t *testing.T) {
	for _, row := range [][3]string{
		{"func 2 n n n : : n n n : ", "| - - - - - n", "copy move lend lendw"},
		{"func 2 n n n : : n n b : ", "b | - - - - - -", "put"},
		{"0: func 2 n n n : : : ", "S02 | n n n", "unpack"},
		{"", "&S11.9 | - - - - - -", "field"},
		{"func 2 : : : 1", "S11 o |", "keep take see seew"},
		{"func 2 : : : 2", "|", "call"},
	} {
		at := standAt(row[0], row[1])
		able := impl.ShapeAble(at.shelf, at.m, at.f, at.s)
		for word := range strings.FieldsSeq(row[2]) {
			if !slices.Contains(able, word) {
				t.Errorf("at %q of %q the word %s is not able", row[1], row[0], word)
			}
		}
	}
}

// TestShapeAbleMany takes shapes by chance.
func TestShapeAbleMany(t *testing.T) {
	c := tally{}
	standsSome(63, 1500, func(r *rand.Rand, at stand, i impl.Ins) {
		want := at.ableTo()
		if got := impl.ShapeAble(at.shelf, at.m, at.f, at.s); !slices.Equal(got, want) {
			t.Errorf("ShapeAble at %q of %v told %v, not %v", shapeTextWanted(at.s), at.fn(), got, want)
		}
		c.count(slices.Contains(want, i.Op))
	})
	c.enough(t, 400, 400)
}

// checkOut holds that there is no step, and no word that can be.
func (at stand) checkOut(t *testing.T, name string, list ...impl.Ins) {
	t.Helper()
	for _, i := range list {
		if s, code := impl.ShapeStep(at.shelf, at.m, at.f, at.s, i); code != impl.BadOut || !sameShape(s, impl.Shape{}) {
			t.Errorf("%s: %v told %q %d", name, i, impl.ShapeText(s), code)
		}
	}
	if words := impl.ShapeAble(at.shelf, at.m, at.f, at.s); len(words) != 0 {
		t.Errorf("%s: ShapeAble told %v", name, words)
	}
}

// insSome are instructions of all sorts, some of which can be at a shape with places, and others have codes of all sorts.
func insSome() []impl.Ins {
	return []impl.Ins{ins("num"), ins("jump"), ins("drop"), ins("copy", 0), ins("copy", 5), ins("pack", 2), ins("take", 2), ins("call", 0, 2), ins("call", 0, 3), ins("ret"), ins("nope"), ins("move", -1)}
}

// TestStepsOutMark takes marks that are none of the kinds, on the stack and in each place; only a place may be empty.
func TestStepsOutMark(t *testing.T) {
	for _, text := range []string{"n", "b &n.9", "S20", "&S21.9", "!S00.0", "o S01"} {
		at := standAt("", text+placesFull)
		if _, code := impl.ShapeStep(at.shelf, 1, 0, at.s, ins("jump", 0)); code != impl.BadNone {
			t.Errorf("at %q the code is %d", text, code)
		}
	}
	none := append(slices.DeleteFunc(typesSome(), func(t string) bool { return ableWanted(standAt("", "").kinds(), t) != -1 }), "S13", "&S22", "!S30", "S99", "-", "|", "n.9", "&n.9", "?")
	for _, text := range none {
		for k := range 3 {
			at := standAt("", "n n n"+placesFull)
			at.s.Stack[k] = mark(text)
			at.checkOut(t, "a mark on the stack, "+strconv.Quote(text), ins("jump", 0), ins("num", 0), ins("drop"))
		}
		for k := range 6 {
			at := standAt("", "n"+placesFull)
			at.s.Places[k] = mark(text, 9)
			if text != "" {
				at.checkOut(t, "a mark in a place, "+strconv.Quote(text), ins("jump", 0), ins("num", 0), ins("drop"))
			} else {
				at.checkStep(t, ins("num", 0))
			}
		}
	}
}

// TestStepsOutPlaces takes a place too many, too few, and none.
func TestStepsOutPlaces(t *testing.T) {
	for _, head := range []string{"", "func 2 : : : ", "func 2 n : n : : ", "func 2 : n : b : "} {
		at := standAt(head, "n |")
		many := len(at.fn().Args) + len(at.fn().Locals)
		for k := range 9 {
			at.s = impl.Shape{Stack: marks(mark("n")), Places: make([]impl.Mark, k)}
			if k != many {
				at.checkOut(t, strconv.Itoa(k)+" places", insSome()...)
			} else if at.checkStep(t, ins("jump", 0)) != impl.BadNone {
				t.Errorf("%d places are not as many as there should be", k)
			}
		}
	}
}

// TestStepsOutIndexes takes modules and functions that are none.
func TestStepsOutIndexes(t *testing.T) {
	c := tally{}
	shelves := [][]impl.Module{nil, {}, {{}}, {{}, {}, {}}, {{}, {Funcs: []impl.Func{small()}}}, shelfSteps(1, "func 2 : : :"), shelfGood()}
	for _, shelf := range shelves {
		for _, m := range numbersSome() {
			for _, f := range numbersSome() {
				at := stand{shelf: shelf, m: m, f: f}
				first, there := firstWanted(shelf, m, f)
				at.s = first
				c.count(there)
				if !there {
					at.checkOut(t, "an index that is none", ins("jump", 0), ins("nope"))
				} else {
					at.checkStep(t, ins("jump", 0))
				}
			}
		}
	}
	c.enough(t, 15, 1000)
}

// TestStepsOutShelf takes a shelf that has not the shape, for a reason beside the function.
func TestStepsOutShelf(t *testing.T) {
	for name, spoil := range map[string]func(s []impl.Module) []impl.Module{
		"too many modules":       func(s []impl.Module) []impl.Module { return append(s, impl.Module{}) },
		"too many functions":     func(s []impl.Module) []impl.Module { s[2].Funcs = slices.Repeat(s[2].Funcs[1:2], 5); return s },
		"too many records":       func(s []impl.Module) []impl.Module { s[2].Records = slices.Repeat(s[2].Records[:1], 4); return s },
		"a kind that is none":    func(s []impl.Module) []impl.Module { s[2].Records[0].Able = 16; return s },
		"a friend that is none":  func(s []impl.Module) []impl.Module { s[2].Friends = []int{3}; return s },
		"a sight that is none":   func(s []impl.Module) []impl.Module { s[0].Funcs[3].Seen = 3; return s },
		"a type that is none":    func(s []impl.Module) []impl.Module { s[2].Funcs[1].Rets = []string{"S22"}; return s },
		"no code":                func(s []impl.Module) []impl.Module { s[1].Funcs[3].Code = nil; return s },
		"an instruction of none": func(s []impl.Module) []impl.Module { s[1].Funcs[0].Code = []impl.Ins{ins("ret", 1)}; return s },
		"a call of a later one":  func(s []impl.Module) []impl.Module { s[1].Funcs[0].Code = []impl.Ins{ins("call", 2, 0)}; return s },
		"a record that is taken": func(s []impl.Module) []impl.Module { s[1].Funcs[0].Takes = []int{3}; return s },
		"its own type is later":  func(s []impl.Module) []impl.Module { s[1].Funcs[0].Locals[0] = "S20"; return s },
	} {
		at := standAt("", "n"+placesFull)
		if at.checkStep(t, ins("jump", 0)) != impl.BadNone || len(impl.ShapeAble(at.shelf, 1, 0, at.s)) == 0 {
			t.Fatal("nothing can be at the good shelf")
		}
		at.shelf = spoil(at.shelf)
		at.checkOut(t, name, insSome()...)
	}
}

// TestStepsOutIns takes instructions that are none: words, and numbers at, below and above the limits.
func TestStepsOutIns(t *testing.T) {
	c := tally{}
	at := standAt("", "n"+placesFull)
	list := []impl.Ins{ins("num", 1000001), ins("num", -1), ins("jump", 40), ins("jump", -1), ins("call", 3, 0), ins("call", 0, 4), ins("call", -1, 0), ins("call", 1, -1), ins("copy", 6), ins("move", -1),
		ins("take", 3), ins("take", -1), ins("field", 3, 0), ins("field", 0, 3), ins("field", -1, 0), ins("field", 0, -1), ins("drop", 1), ins("ret", 0, 1), ins("num", 0, 1), ins("jump", 0, 1), ins("put", 0, math.MinInt), ins("lend", math.MaxInt)}
	for _, word := range wordsNone() {
		list = append(list, ins(word))
	}
	for text := range insTexts() {
		list = append(list, insOfText(text))
	}
	for k, i := range insMany() {
		if k%17 == 0 {
			list = append(list, i)
		}
	}
	for _, i := range list {
		c.count(insWanted(i) != "")
		if insWanted(i) != "" {
			at.checkStep(t, i)
		} else if s, code := impl.ShapeStep(at.shelf, 1, 0, at.s, i); code != impl.BadOut || !sameShape(s, impl.Shape{}) {
			t.Errorf("the instruction %v told %q %d", i, impl.ShapeText(s), code)
		}
	}
	c.enough(t, 200, 500)
}

// TestStepsOddMarks takes marks that tell origins where none are, and shapes whose places have other types than the function.
func TestStepsOddMarks(t *testing.T) {
	for _, row := range []stepRow{
		{"", "n.0 b.9 | n.1 &n.9 !S10.9 -.3 - -", "jump 0", "n b | n &n.9 !S10.9 - - -"},
		{"", "S11.4 n.0" + placesFull, "move 0", "S11 n n | - &n.9 !S10.9 S10 S11 S12"},
		{"", "n.0 | n.0.3 &n.9 !S10.9 -.4 - -", "put 0", "| n &n.9 !S10.9 - - -"},
		{"", "| n.6 - - - - -", "copy 0", "n | n - - - - -"},
		{"", "o.6 | n - - - - -", "take 0", "S10 | n - - - - -"},
		{"", "n.0 S01.9", "call 0 0", "S00 b"},
		{"", "&n.9 o.3 !S11.9", "call 1 1", "&S10.9 n !n.9"},
		{"", "| S11 b !o.9 &n.9 - -", "lend 1", "&b.1 | S11 b !o.9 &n.9 - -"},
		{"", "| S11 b !o.9 &n.9 - -", "copy 3", "&n.9 | S11 b !o.9 &n.9 - -"},
		{"", "n | b - - - - -", "put 0", "| n - - - - -"},
		{"", "| S20 - - - - -", "copy 0", ""},
		{"", "n | S21 - - - - -", "put 0", ""},
		{"", "n | - - - n - -", "put 3", ""},
	} {
		at, i := standAt(row.head, row.at), insOfText(row.do)
		got, code := impl.ShapeStep(at.shelf, at.m, 0, at.s, i)
		if row.to == "" && code == impl.BadNone || row.to != "" && impl.ShapeText(got) != shapeTextWanted(standAt(row.head, row.to).s) {
			t.Errorf("%s at %q told %q %d, not %q", row.do, row.at, impl.ShapeText(got), code, row.to)
		}
		at.checkStep(t, i)
	}
}

// spoilMarks changes all of a shape, and puts marks and origins behind those that are there.
func spoilMarks(s impl.Shape) {
	for _, list := range [][]impl.Mark{s.Stack, s.Places} {
		_ = append(list, mark("y", 5), mark("y"), mark("y"))
		for k := range list[:cap(list)] {
			m := &list[:cap(list)][k]
			for j := range m.From[:cap(m.From)] {
				m.From[:cap(m.From)][j] = 77
			}
			_ = append(m.From, 78, 78, 78)
			m.Type = "x"
		}
	}
}

// TestStepsApart changes a shape behind a step, and holds that neither the one ahead, nor another one behind it, nor other marks of it are changed.
func TestStepsApart(t *testing.T) {
	for _, row := range stepsDone() {
		at, i := standAt(row.head, row.at), insOfText(row.do)
		ahead := cloneShape(at.s)
		a, _ := impl.ShapeStep(at.shelf, at.m, 0, at.s, i)
		b, _ := impl.ShapeStep(at.shelf, at.m, 0, at.s, i)
		want := cloneShape(b)
		spoilMarks(a)
		if !sameShape(b, want) || !sameShape(at.s, ahead) {
			t.Fatalf("a change behind %s at %q goes through", row.do, row.at)
		}
		all := append(slices.Clone(b.Stack), b.Places...)
		for k, m := range all {
			for j := range m.From {
				m.From[j] = 100 + k
			}
			_ = append(m.From, 99, 99)
		}
		for k, m := range all {
			for _, from := range m.From {
				if from != 100+k {
					t.Fatalf("two marks behind %s at %q have one list of origins", row.do, row.at)
				}
			}
		}
	}
	a, b := impl.ShapeAble(shelfSteps(1, stepsHead), 1, 0, standAt("", "").s), impl.ShapeAble(shelfSteps(1, stepsHead), 1, 0, standAt("", "").s)
	for k := range a {
		a[k] = "x"
	}
	if slices.Contains(b, "x") || slices.Contains(impl.InsWords(), "x") {
		t.Error("a change of words goes through")
	}
}

// sameShelf reports whether two shelves are the same.
func sameShelf(a []impl.Module, b []impl.Module) bool { return slices.EqualFunc(a, b, sameModule) }

func TestStepsKeepArguments(t *testing.T) {
	standsSome(64, 5000, func(r *rand.Rand, at stand, i impl.Ins) {
		s := cloneShape(at.s)
		texts := []string{}
		for _, m := range at.shelf {
			texts = append(texts, impl.ModuleText(m))
		}
		impl.ShapeStep(at.shelf, at.m, at.f, s, i)
		if r.Intn(10) == 0 {
			impl.ShapeAble(at.shelf, at.m, at.f, s)
		}
		for m, text := range texts {
			if impl.ModuleText(at.shelf[m]) != text {
				t.Fatalf("the module %d was changed to %q", m, impl.ModuleText(at.shelf[m]))
			}
		}
		if !sameShape(s, at.s) {
			t.Fatalf("the shape %v was changed to %v", at.s, s)
		}
		for _, list := range [][]impl.Mark{s.Stack, s.Places} {
			for _, m := range list[len(list):cap(list)] {
				if !sameMark(m, impl.Mark{}) {
					t.Fatalf("the mark %v was put behind those of %v", m, s)
				}
			}
			for _, m := range list {
				if !slices.Equal(m.From[len(m.From):cap(m.From)], make([]int, cap(m.From)-len(m.From))) {
					t.Fatalf("something was put behind the origins of %v", m)
				}
			}
		}
	})
}

// TestPromise28 holds it also of shapes whose plain marks tell origins, and of stacks with too many values.
func TestPromise28(t *testing.T) {
	c := tally{}
	odd := 0
	standsSome(65, 20000, func(r *rand.Rand, at stand, i impl.Ins) {
		if r.Intn(2) == 0 {
			odd++
			for _, list := range [][]impl.Mark{at.s.Stack, at.s.Places} {
				for k := range list {
					list[k].From = someOf(r, 2, []int{0, 3, 6, 9, -1, 10})
				}
			}
		}
		s, code := impl.ShapeStep(at.shelf, at.m, at.f, at.s, i)
		c.count(code == impl.BadNone)
		if code != impl.BadNone {
			return
		}
		if len(s.Places) != len(at.s.Places) || len(s.Stack) > 12 {
			t.Fatalf("behind %v at %v there are %d places, and %d values on the stack", i, at.s, len(s.Places), len(s.Stack))
		}
		for _, m := range append(slices.Clone(s.Stack), s.Places...) {
			if !isRef(m.Type) && len(m.From) > 0 {
				t.Fatalf("behind %v at %v the mark %v has origins", i, at.s, m)
			}
		}
	})
	c.enough(t, 5000, 5000)
}

func TestPromise29(t *testing.T) {
	c := tally{}
	standsSome(66, 3000, func(r *rand.Rand, at stand, i impl.Ins) {
		words := impl.ShapeAble(at.shelf, at.m, at.f, at.s)
		if len(words) == 0 {
			return
		}
		next := 0
		all := impl.InsWords()
		for _, word := range words {
			at := slices.Index(all[next:], word)
			if at == -1 {
				t.Fatalf("the words %v are not in order", words)
			}
			next += at + 1
		}
		full := len(at.s.Stack) >= 12
		if slices.Contains(words, "num") == full {
			t.Fatalf("with %d values on the stack, %v can be", len(at.s.Stack), words)
		}
		c.count(full)
	})
	c.enough(t, 200, 2000)
}

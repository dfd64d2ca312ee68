package tests

import (
	"math"
	"math/rand"
	"reflect"
	"slices"
	"strconv"
	"strings"
	"testing"

	"loop.example/heirlooms/impl"
)

// mark writes a mark in short.
func mark(t string, from ...int) impl.Mark {
	return impl.Mark{Type: t, From: from}
}

// marks writes some marks in short.
func marks(list ...impl.Mark) []impl.Mark {
	return list
}

// sameMark reports whether two marks are the same, where a nil list and an empty one are.
func sameMark(a impl.Mark, b impl.Mark) bool {
	return a.Type == b.Type && slices.Equal(a.From, b.From)
}

func sameShape(a impl.Shape, b impl.Shape) bool {
	return slices.EqualFunc(a.Stack, b.Stack, sameMark) && slices.EqualFunc(a.Places, b.Places, sameMark)
}

// cloneShape returns a shape of its own memory, in which each list has room behind it.
func cloneShape(s impl.Shape) impl.Shape {
	clone := func(list []impl.Mark) []impl.Mark {
		copied := make([]impl.Mark, 0, len(list)+3)
		for _, m := range list {
			copied = append(copied, impl.Mark{Type: m.Type, From: append(make([]int, 0, len(m.From)+3), m.From...)})
		}
		return copied
	}
	return impl.Shape{Stack: clone(s.Stack), Places: clone(s.Places)}
}

// markTextWanted tells by the document's words the text of a mark.
func markTextWanted(m impl.Mark) string {
	text := m.Type
	if text == "" {
		text = "-"
	}
	for _, from := range m.From {
		text += "." + strconv.Itoa(from)
	}
	return text
}

// shapeTextWanted tells by the document's words the text of a shape.
func shapeTextWanted(s impl.Shape) string {
	text := ""
	for _, m := range s.Stack {
		text += markTextWanted(m) + " "
	}
	text += "|"
	for _, m := range s.Places {
		text += " " + markTextWanted(m)
	}
	return text
}

// lentWanted tells by the document's words whether an origin of a shape is lent, and whether it is so to write.
func lentWanted(s impl.Shape, from int) (bool, bool) {
	lent, written := false, false
	for _, m := range append(slices.Clone(s.Stack), s.Places...) {
		for _, origin := range m.From {
			if origin == from {
				lent = lent || strings.HasPrefix(m.Type, "&") || strings.HasPrefix(m.Type, "!")
				written = written || strings.HasPrefix(m.Type, "!")
			}
		}
	}
	return lent, written
}

// firstWanted tells by the document's words the shape at the first instruction of a function.
func firstWanted(shelf []impl.Module, m int, f int) (impl.Shape, bool) {
	if !shapeWanted(shelf) || m < 0 || m >= len(shelf) || f < 0 || f >= len(shelf[m].Funcs) {
		return impl.Shape{}, false
	}
	s := impl.Shape{}
	for _, t := range shelf[m].Funcs[f].Args {
		if t[0] == '&' || t[0] == '!' {
			s.Places = append(s.Places, mark(t, 9))
		} else {
			s.Places = append(s.Places, mark(t))
		}
	}
	for range shelf[m].Funcs[f].Locals {
		s.Places = append(s.Places, mark(""))
	}
	return s, true
}

// checkFirst holds ShapeFirst against what the document's words tell of it, and reports whether there is a shape.
func checkFirst(t *testing.T, shelf []impl.Module, m int, f int) bool {
	t.Helper()
	want, there := firstWanted(shelf, m, f)
	got, ok := impl.ShapeFirst(shelf, m, f)
	if ok != there || !sameShape(got, want) {
		t.Errorf("ShapeFirst of %d %d of %v told %v %v, not %v %v", m, f, shelf, got, ok, want, there)
	}
	return ok
}

// checkShape holds the functions of a shape that stands alone against what the document's words tell of it.
func checkShape(t *testing.T, s impl.Shape, origins []int) {
	t.Helper()
	if got, want := impl.ShapeText(s), shapeTextWanted(s); got != want {
		t.Errorf("ShapeText of %v told %q, not %q", s, got, want)
	}
	if !impl.ShapeSame(s, s) || !impl.ShapeSame(s, cloneShape(s)) || !impl.ShapeSame(cloneShape(s), s) {
		t.Errorf("the shape %v is not the same as itself", s)
	}
	for _, from := range origins {
		lent, written := lentWanted(s, from)
		if impl.ShapeLent(s, from) != lent || impl.ShapeWritten(s, from) != written {
			t.Errorf("of %v the origin %d is lent %v, and to write %v", s, from, impl.ShapeLent(s, from), impl.ShapeWritten(s, from))
		}
	}
}

// markSome returns a mark of a shape, by chance: often a reference, and sometimes an empty one.
func markSome(r *rand.Rand) impl.Mark {
	types := []string{"", "n", "b", "o", "S00", "S12", "&n", "&b", "&S00", "&S21", "!n", "!o", "!S00", "!S22"}
	m := mark(types[r.Intn(len(types))])
	if strings.Trim(m.Type, "&!") != m.Type {
		m.From = someAscending(r, 0, 10)
	}
	if len(m.From) > 1 && r.Intn(2) == 0 {
		m.From = m.From[:1]
	}
	return m
}

// markOdd returns a mark with whatever type and origins, by chance, that often is none.
func markOdd(r *rand.Rand) impl.Mark {
	types := append(typesSome(), "-", ".", "|", "- -", "&n.9", "n n", " ", "&", "!", "&&n", "!x", "&-")
	m := mark(types[r.Intn(len(types))])
	for range r.Intn(4) {
		m.From = append(m.From, []int{0, 3, 9, 9, -1, 10, 5, 6, math.MaxInt, math.MinInt}[r.Intn(10)])
	}
	return m
}

// shapesSome are shapes by chance, always the same ones, of marks by a rule; some have no stack, and some no places.
func shapesSome(seed int64, many int, some func(*rand.Rand) impl.Mark) []impl.Shape {
	r := rand.New(rand.NewSource(seed))
	shapes := []impl.Shape{}
	for range many {
		s := impl.Shape{}
		for range r.Intn(13) * r.Intn(2) {
			s.Stack = append(s.Stack, some(r))
		}
		for range r.Intn(7) * r.Intn(3) / 2 {
			s.Places = append(s.Places, some(r))
		}
		shapes = append(shapes, s)
	}
	return shapes
}

// shapesMany are shapes with no, few and many marks, and some that are none.
func shapesMany() []impl.Shape {
	full := impl.Shape{Stack: slices.Repeat(marks(mark("!S00", 0, 1, 2, 3, 4, 5, 6, 7, 8, 9)), 12), Places: slices.Repeat(marks(mark("&n", 0, 9)), 6)}
	long := impl.Shape{Stack: slices.Repeat(marks(mark("n"), mark(""), mark("&b", 4)), 100), Places: slices.Repeat(marks(mark("!b", 7), mark("")), 100)}
	list := []impl.Shape{{}, {Stack: marks()}, {Places: marks()}, {Stack: marks(), Places: marks()}, full, long}
	return slices.Concat(list, shapesSome(51, 1000, markSome), shapesSome(52, 1000, markOdd))
}

// originsSome are origins, at, below and above their limits, and numbers that are far from any.
func originsSome() []int {
	return []int{math.MinInt, -256, -10, -9, -2, -1, 0, 1, 2, 3, 4, 5, 6, 7, 8, 9, 10, 11, 12, 99, 256, 265, math.MaxInt}
}

func TestShapeConstants(t *testing.T) {
	got := []int{impl.StackMost, impl.FromRecord, impl.FromOutside}
	if !slices.Equal(got, []int{12, 6, 9}) {
		t.Errorf("the constants are %v", got)
	}
}

// TestShapeFirst goes from no places to all that there may be, and to modules with kinds of earlier ones.
func TestShapeFirst(t *testing.T) {
	for want, f := range map[string]impl.Func{
		"|":                         {},
		"| n":                       {Args: []string{"n"}},
		"| &n.9":                    {Args: []string{"&n"}},
		"| !n.9":                    {Args: []string{"!n"}},
		"| -":                       {Locals: []string{"n"}},
		"| - - - - - -":             {Locals: []string{"n", "&n", "!n", "S00", "&S10", "!S20"}},
		"| n b o":                   {Args: []string{"n", "b", "o"}, Rets: []string{"&n", "!n", "b"}},
		"| &S00.9 !S00.9 S00 - - -": {Args: []string{"&S00", "!S00", "S00"}, Locals: []string{"!S00", "S00", "&S00"}, Takes: []int{0}},
		"| !n.9 &n.9 - -":           {Args: []string{"!n", "&n"}, Locals: []string{"&n", "!n"}},
		"| S20 &S10.9 !b.9 -":       {Args: []string{"S20", "&S10", "!b"}, Locals: []string{"o"}},
		"| &o.9 &o.9 &o.9":          {Args: []string{"&o", "&o", "&o"}},
	} {
		f.Code = []impl.Ins{ins("jump", 0)}
		shelf := []impl.Module{{Records: []impl.Record{rec(0)}}, {Records: []impl.Record{rec(15)}}, {Records: []impl.Record{rec(4, "S10")}}}
		shelf[2].Funcs = []impl.Func{small(), small(), f}
		s, ok := impl.ShapeFirst(shelf, 2, 2)
		if got := impl.ShapeText(s); !ok || got != want || len(s.Stack) != 0 {
			t.Errorf("ShapeFirst of a function told %v %v, not %q", s, ok, want)
		}
		checkFirst(t, shelf, 2, 2)
	}
}

// TestShapeFirstIndexes takes indexes of modules and functions that are there, and many that are none.
func TestShapeFirstIndexes(t *testing.T) {
	c := tally{}
	for _, shelf := range [][]impl.Module{nil, {}, {{}}, {{}, {}, {}}, {{}, {Funcs: []impl.Func{small()}}}, shelfGood()} {
		for _, m := range numbersSome() {
			for _, f := range numbersSome() {
				c.count(checkFirst(t, shelf, m, f))
			}
		}
	}
	c.enough(t, 9, 1000)
}

// TestShapeFirstFaults spoils a thing of a shelf beside a function, whose own shape it is not.
func TestShapeFirstFaults(t *testing.T) {
	for name, spoil := range map[string]func(s []impl.Module) []impl.Module{
		"too many modules":        func(s []impl.Module) []impl.Module { return append(s, impl.Module{}) },
		"too many functions":      func(s []impl.Module) []impl.Module { s[2].Funcs = slices.Repeat(s[2].Funcs[1:2], 5); return s },
		"a kind that is none":     func(s []impl.Module) []impl.Module { s[2].Records[0].Able = 16; return s },
		"a friend that is none":   func(s []impl.Module) []impl.Module { s[2].Friends = []int{3}; return s },
		"a sight that is none":    func(s []impl.Module) []impl.Module { s[2].Funcs[3].Seen = 3; return s },
		"a type that is none":     func(s []impl.Module) []impl.Module { s[2].Funcs[3].Args = []string{"S21"}; return s },
		"no code":                 func(s []impl.Module) []impl.Module { s[2].Funcs[3].Code = nil; return s },
		"an instruction of none":  func(s []impl.Module) []impl.Module { s[2].Funcs[3].Code = []impl.Ins{ins("nope")}; return s },
		"a call of a later one":   func(s []impl.Module) []impl.Module { s[0].Funcs[2].Code = []impl.Ins{ins("call", 1, 0)}; return s },
		"a record that is taken":  func(s []impl.Module) []impl.Module { s[2].Funcs[3].Takes = []int{1}; return s },
		"its own type is none":    func(s []impl.Module) []impl.Module { s[0].Funcs[0].Args = []string{"x"}; return s },
		"its own type is empty":   func(s []impl.Module) []impl.Module { s[0].Funcs[0].Args = []string{""}; return s },
		"its own type is later":   func(s []impl.Module) []impl.Module { s[0].Funcs[0].Args = []string{"&S10"}; return s },
		"its own place is none":   func(s []impl.Module) []impl.Module { s[0].Funcs[0].Locals = []string{"&"}; return s },
		"its own place too many":  func(s []impl.Module) []impl.Module { s[0].Funcs[0].Locals = slices.Repeat([]string{"n"}, 9); return s },
		"its own args too many":   func(s []impl.Module) []impl.Module { s[0].Funcs[0].Args = []string{"n", "n", "n", "n"}; return s },
		"its own result is none":  func(s []impl.Module) []impl.Module { s[0].Funcs[0].Rets = []string{"n", "S03"}; return s },
		"its own code is too far": func(s []impl.Module) []impl.Module { s[0].Funcs[0].Code[0] = ins("jump", 40); return s },
	} {
		if !checkFirst(t, shelfGood(), 0, 0) {
			t.Fatal("the good shelf has no shape at the first instruction")
		}
		if shelf := spoil(shelfGood()); checkFirst(t, shelf, 0, 0) {
			t.Errorf("%s: there is a shape", name)
		}
	}
}

// TestShapeFirstMany takes shelves by chance, good ones and spoilt ones.
func TestShapeFirstMany(t *testing.T) {
	r := rand.New(rand.NewSource(53))
	c := tally{}
	for _, shelf := range shelvesSome(1500) {
		if len(shelf) > 0 && r.Intn(3) == 0 {
			spoiltShelf(r, shelf)
		}
		for m := -1; m <= len(shelf); m++ {
			for f := -1; f <= 4; f++ {
				c.count(checkFirst(t, shelf, m, f))
			}
		}
	}
	c.enough(t, 500, 1000)
}

// TestShapeFirstApart changes all of one shape, and puts marks and origins behind those that are there.
func TestShapeFirstApart(t *testing.T) {
	shelf := shelfGood()
	shelf[0].Funcs[1].Args = []string{"&S02", "!S00", "&S02"}
	want, _ := firstWanted(shelf, 0, 1)
	a, _ := impl.ShapeFirst(shelf, 0, 1)
	b, _ := impl.ShapeFirst(shelf, 0, 1)
	for i := range a.Places {
		_ = append(a.Places[i].From, 1, 2, 3)
		_ = append(a.Places[:i], mark("x", 8))
		a.Places[i].Type = "y"
	}
	_, _ = append(a.Stack, mark("x")), append(a.Places, mark("x"))
	if !sameShape(b, want) {
		t.Errorf("a change of a shape goes through to another one: %v", b)
	}
	for i := range b.Places[:3] {
		b.Places[i].From[0] = i
	}
	for i := range b.Places[:3] {
		if b.Places[i].From[0] != i {
			t.Error("two marks share their origins")
		}
	}
	if _, ok := impl.ShapeFirst(shelf, 0, 1); !ok || !reflect.DeepEqual(shelf[1:], shelfGood()[1:]) || shelf[0].Funcs[1].Args[2] != "&S02" {
		t.Error("a shelf was changed")
	}
}

// shapesWritten are shapes with their texts.
func shapesWritten() map[string]impl.Shape {
	return map[string]impl.Shape{
		"|":                            {},
		"- |":                          {Stack: marks(mark(""))},
		"| -":                          {Places: marks(mark(""))},
		"- - | - -":                    {Stack: marks(mark(""), mark("")), Places: marks(mark(""), mark(""))},
		"n |":                          {Stack: marks(mark("n"))},
		"| n":                          {Places: marks(mark("n"))},
		"n | n":                        {Stack: marks(mark("n")), Places: marks(mark("n"))},
		"n b | - o":                    {Stack: marks(mark("n"), mark("b")), Places: marks(mark(""), mark("o"))},
		"b n | o -":                    {Stack: marks(mark("b"), mark("n")), Places: marks(mark("o"), mark(""))},
		"&n | !n":                      {Stack: marks(mark("&n")), Places: marks(mark("!n"))},
		"&n.0 | !n.9":                  {Stack: marks(mark("&n", 0)), Places: marks(mark("!n", 9))},
		"!S00.0.1.2.3.4.5.6.7.8.9 |":   {Stack: marks(mark("!S00", 0, 1, 2, 3, 4, 5, 6, 7, 8, 9))},
		"| &S21.5.6":                   {Places: marks(mark("&S21", 5, 6))},
		"&n.1 !n.1 | !n.1 &n.1":        {Stack: marks(mark("&n", 1), mark("!n", 1)), Places: marks(mark("!n", 1), mark("&n", 1))},
		"-.3 | n.-1.10":                {Stack: marks(mark("", 3)), Places: marks(mark("n", -1, 10))},
		"| &o.9.9.0.-7.1000":           {Places: marks(mark("&o", 9, 9, 0, -7, 1000))},
		"x  | &&n \xff":                {Stack: marks(mark("x ")), Places: marks(mark("&&n"), mark("\xff"))},
		"| !b.-9223372036854775808":    {Places: marks(mark("!b", math.MinInt))},
		"!b.9223372036854775807 | & !": {Stack: marks(mark("!b", math.MaxInt)), Places: marks(mark("&"), mark("!"))},
	}
}

func TestShapesWritten(t *testing.T) {
	for want, s := range shapesWritten() {
		if got := impl.ShapeText(s); got != want {
			t.Errorf("ShapeText told %q, not %q", got, want)
		}
		checkShape(t, s, originsSome())
		for text, other := range shapesWritten() {
			if impl.ShapeSame(s, other) != (text == want) {
				t.Errorf("ShapeSame of the shapes %q and %q told %v", want, text, text != want)
			}
		}
	}
}

// TestShapesMany goes on to shapes with more marks than there may be, and to marks that are none.
func TestShapesMany(t *testing.T) {
	for _, s := range shapesMany() {
		checkShape(t, s, originsSome())
	}
}

// TestShapesEmpty holds that a nil list and an empty one are the same.
func TestShapesEmpty(t *testing.T) {
	none := impl.Shape{}
	empty := impl.Shape{Stack: []impl.Mark{}, Places: []impl.Mark{}}
	a := impl.Shape{Stack: []impl.Mark{{Type: "&n"}}, Places: []impl.Mark{{}}}
	b := impl.Shape{Stack: []impl.Mark{{Type: "&n", From: []int{}}}, Places: []impl.Mark{{From: []int{}}}}
	if !impl.ShapeSame(none, empty) || !impl.ShapeSame(empty, none) || !impl.ShapeSame(a, b) || !impl.ShapeSame(b, a) {
		t.Error("an empty list is not the same as none")
	}
	if impl.ShapeSame(none, a) || impl.ShapeSame(b, empty) {
		t.Error("a shape with empty marks is the same as one without marks")
	}
	if impl.ShapeText(none) != "|" || impl.ShapeText(empty) != "|" || impl.ShapeText(a) != "&n | -" || impl.ShapeText(b) != "&n | -" {
		t.Error("the text of an empty list is not that of none")
	}
}

// TestShapesDiffer changes one thing of a shape at a time.
func TestShapesDiffer(t *testing.T) {
	whole := impl.Shape{Stack: marks(mark("n"), mark("&S00", 1, 6), mark("!b", 9)), Places: marks(mark(""), mark("b"), mark("!S01", 2), mark("&n"))}
	for name, change := range map[string]func(s *impl.Shape){
		"a type on the stack":            func(s *impl.Shape) { s.Stack[0].Type = "b" },
		"a type in a place":              func(s *impl.Shape) { s.Places[1].Type = "n" },
		"a sign on the stack":            func(s *impl.Shape) { s.Stack[1].Type = "!S00" },
		"a sign in a place":              func(s *impl.Shape) { s.Places[2].Type = "&S01" },
		"no sign on the stack":           func(s *impl.Shape) { s.Stack[2].Type = "b" },
		"a kind on the stack":            func(s *impl.Shape) { s.Stack[1].Type = "&S10" },
		"a kind in a place":              func(s *impl.Shape) { s.Places[2].Type = "!S02" },
		"an empty mark on the stack":     func(s *impl.Shape) { s.Stack[0] = mark("") },
		"an empty mark in a place":       func(s *impl.Shape) { s.Places[1] = mark("") },
		"an empty mark that is filled":   func(s *impl.Shape) { s.Places[0] = mark("n") },
		"an origin on the stack":         func(s *impl.Shape) { s.Stack[1].From[0] = 0 },
		"an origin in a place":           func(s *impl.Shape) { s.Places[2].From[0] = 3 },
		"a last origin on the stack":     func(s *impl.Shape) { s.Stack[1].From[1] = 7 },
		"an origin more on the stack":    func(s *impl.Shape) { s.Stack[2].From = []int{8, 9} },
		"an origin more in a place":      func(s *impl.Shape) { s.Places[2].From = []int{2, 9} },
		"a first origin in a place":      func(s *impl.Shape) { s.Places[3].From = []int{0} },
		"an origin less on the stack":    func(s *impl.Shape) { s.Stack[1].From = []int{1} },
		"no origin on the stack":         func(s *impl.Shape) { s.Stack[2].From = nil },
		"no origin in a place":           func(s *impl.Shape) { s.Places[2].From = nil },
		"a value more on the stack":      func(s *impl.Shape) { s.Stack = append(s.Stack, mark("n")) },
		"an empty mark more":             func(s *impl.Shape) { s.Stack = append(s.Stack, mark("")) },
		"a value less on the stack":      func(s *impl.Shape) { s.Stack = s.Stack[:2] },
		"a place more":                   func(s *impl.Shape) { s.Places = append(s.Places, mark("")) },
		"a place less":                   func(s *impl.Shape) { s.Places = s.Places[:3] },
		"a first place less":             func(s *impl.Shape) { s.Places = s.Places[1:] },
		"no stack":                       func(s *impl.Shape) { s.Stack = nil },
		"no places":                      func(s *impl.Shape) { s.Places = nil },
		"two values the other way round": func(s *impl.Shape) { s.Stack[0], s.Stack[1] = s.Stack[1], s.Stack[0] },
		"two places the other way round": func(s *impl.Shape) { s.Places[0], s.Places[1] = s.Places[1], s.Places[0] },
		"stack and places exchanged":     func(s *impl.Shape) { s.Stack, s.Places = s.Places, s.Stack },
		"a value that is a place":        func(s *impl.Shape) { s.Places, s.Stack = slices.Insert(s.Places, 0, s.Stack[2]), s.Stack[:2] },
		"origins of another mark":        func(s *impl.Shape) { s.Stack[1].From, s.Stack[2].From = s.Stack[2].From, s.Stack[1].From },
	} {
		s := cloneShape(whole)
		change(&s)
		if impl.ShapeSame(whole, s) || impl.ShapeSame(s, whole) {
			t.Errorf("%s: the shapes are the same", name)
		}
		if impl.ShapeText(whole) == impl.ShapeText(s) {
			t.Errorf("%s: the texts are the same", name)
		}
	}
	if !impl.ShapeSame(whole, cloneShape(whole)) {
		t.Error("a shape is not the same as its copy")
	}
}

// TestShapeLent tells which origins are lent, and which to write, up to one below and one above all of them.
func TestShapeLent(t *testing.T) {
	for name, c := range map[string]struct {
		s       impl.Shape
		lent    []int
		written []int
	}{
		"nothing":                      {impl.Shape{}, nil, nil},
		"empty marks":                  {impl.Shape{Stack: marks(mark("")), Places: marks(mark(""), mark(""))}, nil, nil},
		"plain marks":                  {impl.Shape{Stack: marks(mark("n"), mark("S00")), Places: marks(mark("b"), mark("o"))}, nil, nil},
		"references without origins":   {impl.Shape{Stack: marks(mark("&n"), mark("!n")), Places: marks(mark("!S00"), mark("&b"))}, nil, nil},
		"to read on the stack":         {impl.Shape{Stack: marks(mark("n"), mark("&n", 0), mark("n")), Places: marks(mark("n"))}, []int{0}, nil},
		"to read in a place":           {impl.Shape{Stack: marks(mark("n")), Places: marks(mark("n"), mark("&n", 9))}, []int{9}, nil},
		"to write on the stack":        {impl.Shape{Stack: marks(mark("!S00", 5)), Places: marks(mark(""))}, []int{5}, []int{5}},
		"to write in a place":          {impl.Shape{Places: marks(mark(""), mark("!S00", 6))}, []int{6}, []int{6}},
		"both, with the same origin":   {impl.Shape{Stack: marks(mark("&n", 3), mark("!n", 3))}, []int{3}, []int{3}},
		"both, to write first":         {impl.Shape{Stack: marks(mark("!n", 3), mark("&n", 3))}, []int{3}, []int{3}},
		"both, on either side":         {impl.Shape{Stack: marks(mark("&n", 9)), Places: marks(mark("!n", 9))}, []int{9}, []int{9}},
		"both, on the other side":      {impl.Shape{Stack: marks(mark("!n", 9)), Places: marks(mark("&n", 9))}, []int{9}, []int{9}},
		"both, with others":            {impl.Shape{Stack: marks(mark("&n", 1, 2)), Places: marks(mark("!n", 7, 8))}, []int{1, 2, 7, 8}, []int{7, 8}},
		"both, with one in common":     {impl.Shape{Places: marks(mark("&n", 1, 2), mark("!n", 2, 9))}, []int{1, 2, 9}, []int{2, 9}},
		"all to read":                  {impl.Shape{Places: marks(mark("&n", 0, 1, 2, 3, 4, 5, 6, 7, 8, 9))}, []int{0, 1, 2, 3, 4, 5, 6, 7, 8, 9}, nil},
		"all to write":                 {impl.Shape{Stack: marks(mark("!S21", 0, 1, 2, 3, 4, 5, 6, 7, 8, 9))}, []int{0, 1, 2, 3, 4, 5, 6, 7, 8, 9}, []int{0, 1, 2, 3, 4, 5, 6, 7, 8, 9}},
		"the least and the greatest":   {impl.Shape{Stack: marks(mark("&o", 0, 9)), Places: marks(mark("!o", 9))}, []int{0, 9}, []int{9}},
		"no references, with origins":  {impl.Shape{Stack: marks(mark("n", 1), mark("", 2)), Places: marks(mark("S00", 3), mark("", 4))}, nil, nil},
		"no reference beside one":      {impl.Shape{Stack: marks(mark("n", 1), mark("&n", 2)), Places: marks(mark("", 2), mark("!b", 3))}, []int{2, 3}, []int{3}},
		"the last one of a full stack": {impl.Shape{Stack: append(slices.Repeat(marks(mark("n")), 11), mark("!n", 4))}, []int{4}, []int{4}},
		"the last one of all places":   {impl.Shape{Places: append(slices.Repeat(marks(mark("")), 5), mark("&n", 8))}, []int{8}, nil},
	} {
		for _, from := range append(originsSome(), numbersSome()...) {
			if impl.ShapeLent(c.s, from) != slices.Contains(c.lent, from) || impl.ShapeWritten(c.s, from) != slices.Contains(c.written, from) {
				t.Errorf("%s: the origin %d is lent %v, and to write %v", name, from, impl.ShapeLent(c.s, from), impl.ShapeWritten(c.s, from))
			}
		}
		checkShape(t, c.s, originsSome())
	}
}

func TestShapesKeepArguments(t *testing.T) {
	for _, s := range shapesMany() {
		a, b := cloneShape(s), cloneShape(s)
		impl.ShapeSame(a, b)
		impl.ShapeText(a)
		for _, from := range originsSome() {
			impl.ShapeLent(a, from)
			impl.ShapeWritten(a, from)
		}
		if !sameShape(a, s) || !sameShape(b, s) {
			t.Fatalf("the shape %v was changed to %v", s, a)
		}
		for _, list := range [][]impl.Mark{a.Stack, a.Places} {
			for _, m := range list {
				if !slices.Equal(m.From[len(m.From):cap(m.From)], make([]int, cap(m.From)-len(m.From))) {
					t.Fatalf("something was put behind the origins of %v", m)
				}
			}
			for _, m := range list[len(list):cap(list)] {
				if !sameMark(m, impl.Mark{}) {
					t.Fatalf("the mark %v was put behind those of %v", m, s)
				}
			}
		}
	}
}

func TestPromise23(t *testing.T) {
	c := tally{}
	for _, shelf := range append(shelvesSome(1000), shelfGood()) {
		for m, module := range shelf {
			for f := range module.Funcs {
				s, ok := impl.ShapeFirst(shelf, m, f)
				if !ok {
					t.Fatalf("there is no shape at the first instruction of %d %d of %v", m, f, shelf)
				}
				args := strings.Join(module.Funcs[f].Args, "")
				for _, from := range originsSome() {
					lent := from == 9 && strings.ContainsAny(args, "&!")
					written := from == 9 && strings.Contains(args, "!")
					if impl.ShapeLent(s, from) != lent || impl.ShapeWritten(s, from) != written {
						t.Fatalf("at the first instruction of %v the origin %d is lent %v, and to write %v", module.Funcs[f], from, !lent, !written)
					}
					c.count(lent)
				}
			}
		}
	}
	c.enough(t, 500, 500)
}

// shapesNear are all shapes with up to one mark on the stack, and one or two in places, of marks whose texts are easily taken for each other.
func shapesNear() []impl.Shape {
	few := marks(mark(""), mark("-"), mark("n"), mark("n n"), mark(" "), mark("|"), mark("&n"), mark("&n", 9), mark("&n.9"), mark("&n", 9, 9), mark("&n", 99), mark("", 9), mark("-.9"), mark("!n", 9), mark("n |"))
	lists := [][]impl.Mark{nil, marks(mark("n"), mark("n")), marks(mark("n"), mark("|")), marks(mark(""), mark("")), marks(mark("&n"), mark("&n", 9))}
	for _, m := range few {
		lists = append(lists, marks(m))
	}
	shapes := []impl.Shape{}
	for _, stack := range lists {
		for _, places := range lists {
			shapes = append(shapes, impl.Shape{Stack: stack, Places: places})
		}
	}
	return shapes
}

// TestPromise24 holds it of all arguments, also of marks that are none, and then that shapes that are ones are the same just if all their marks are.
func TestPromise24(t *testing.T) {
	c := tally{}
	near := shapesNear()
	for i, a := range near {
		text := impl.ShapeText(a)
		for j, b := range near {
			same := impl.ShapeSame(a, b)
			if same != (text == impl.ShapeText(b)) {
				t.Fatalf("ShapeSame of %v and %v, with the texts %q and %q, told %v", a, b, text, impl.ShapeText(b), same)
			}
			if i != j {
				c.count(same)
			}
		}
	}
	c.enough(t, 100, 10000)
	shapes := shapesSome(54, 600, markSome)
	for i, a := range shapes {
		for _, b := range shapes[:i+1] {
			same := impl.ShapeSame(a, b)
			if same != sameShape(a, b) || same != (impl.ShapeText(a) == impl.ShapeText(b)) || same != impl.ShapeSame(b, a) {
				t.Fatalf("ShapeSame of %v and %v told %v", a, b, same)
			}
		}
	}
}

func TestPromise25(t *testing.T) {
	c := tally{}
	for _, s := range shapesMany() {
		for _, from := range originsSome() {
			written := impl.ShapeWritten(s, from)
			if written && !impl.ShapeLent(s, from) {
				t.Fatalf("of %v the origin %d is lent to write, and is not lent", s, from)
			}
			c.count(written)
		}
	}
	c.enough(t, 1000, 1000)
}

// TestPromise26 takes stacks and places away, until there is nothing by which an origin could be lent.
func TestPromise26(t *testing.T) {
	for _, s := range shapesMany() {
		for _, from := range originsSome() {
			stack, places := impl.Shape{Stack: s.Stack}, impl.Shape{Places: s.Places}
			for _, part := range []impl.Shape{s, stack, places} {
				if impl.ShapeWritten(part, from) && !impl.ShapeLent(part, from) {
					t.Fatalf("of %v the origin %d is lent to write, and is not lent", part, from)
				}
			}
			if impl.ShapeLent(s, from) != (impl.ShapeLent(stack, from) || impl.ShapeLent(places, from)) {
				t.Fatalf("of %v the origin %d is lent %v", s, from, impl.ShapeLent(s, from))
			}
			if impl.ShapeWritten(s, from) != (impl.ShapeWritten(stack, from) || impl.ShapeWritten(places, from)) {
				t.Fatalf("of %v the origin %d is lent to write %v", s, from, impl.ShapeWritten(s, from))
			}
			for _, none := range []impl.Shape{{}, {Stack: s.Stack[:0], Places: s.Places[:0]}} {
				if impl.ShapeLent(none, from) || impl.ShapeWritten(none, from) {
					t.Fatalf("of a shape without stack and places the origin %d is lent", from)
				}
			}
		}
	}
}

func TestPromise27(t *testing.T) {
	for _, s := range slices.Concat(shapesMany(), shapesNear()) {
		places := impl.ShapeText(impl.Shape{Places: s.Places})
		if places != shapeTextWanted(impl.Shape{Places: s.Places}) || places[0] != '|' {
			t.Fatalf("the text of the places %v is %q", s.Places, places)
		}
		ahead, ends := strings.CutSuffix(impl.ShapeText(s), places)
		if !ends || (ahead == "") != (len(s.Stack) == 0) {
			t.Fatalf("the text %q does not end with that of the places, %q", impl.ShapeText(s), places)
		}
	}
}

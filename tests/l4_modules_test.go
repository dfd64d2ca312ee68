package tests

import (
	"math"
	"math/rand"
	"reflect"
	"regexp"
	"slices"
	"strconv"
	"strings"
	"testing"

	"loop.example/heirlooms/impl"
)

// ins writes an instruction in short.
func ins(op string, numbers ...int) impl.Ins {
	numbers = append(numbers, 0, 0)
	return impl.Ins{Op: op, A: numbers[0], B: numbers[1]}
}

// small is a function that ends at once.
func small() impl.Func {
	return impl.Func{Code: []impl.Ins{ins("ret")}}
}

// shelfGood is a shelf with all sorts of functions, in which each module calls itself and earlier ones.
func shelfGood() []impl.Module {
	return []impl.Module{
		{
			Records: []impl.Record{rec(12, "n"), rec(7, "n", "b", "o"), rec(8, "S00", "S01")},
			Friends: []int{1, 2},
			Funcs: []impl.Func{
				{Seen: 2, Args: []string{"n"}, Rets: []string{"S00"}, Code: []impl.Ins{ins("move", 0), ins("pack", 0), ins("ret")}},
				{Seen: 1, Args: []string{"&S02", "!S00", "o"}, Rets: []string{"&S00", "!n", "b"}, Locals: []string{"S02", "&o", "n"}, Takes: []int{0, 2}, Code: []impl.Ins{ins("call", 0, 3), ins("num", 1000000), ins("fail")}},
				{Seen: 0, Locals: []string{"n", "n", "n", "n", "n", "n"}, Takes: []int{0, 1, 2}, Code: []impl.Ins{ins("jump", 39)}},
			},
		},
		{
			Records: []impl.Record{rec(4, "S00"), rec(0, "S02", "S10")},
			Friends: []int{2},
			Funcs: []impl.Func{
				{Seen: 1, Args: []string{"S11", "!S10", "S02"}, Takes: []int{1}, Code: []impl.Ins{ins("call", 1, 0), ins("call", 0, 1), ins("field", 2, 1), ins("ret")}},
			},
		},
		{
			Records: []impl.Record{rec(15)},
			Funcs: []impl.Func{
				{Seen: 2, Rets: []string{"S20", "S10", "S00"}, Takes: []int{0}, Code: []impl.Ins{ins("call", 2, 0), ins("call", 1, 0), ins("call", 0, 0), ins("ret")}},
				small(), small(), small(),
			},
		},
	}
}

// A tally counts what was good and what was none, so that a test by chance has enough of both.
type tally struct{ good, none int }

func (c *tally) count(good bool) {
	if good {
		c.good++
		return
	}
	c.none++
}

// enough holds that there were some of both.
func (c *tally) enough(t *testing.T, good int, none int) {
	t.Helper()
	if c.good < good || c.none < none {
		t.Errorf("only %d were good, and %d none", c.good, c.none)
	}
}

// sameFunc reports whether two functions are the same, where a nil list and an empty one are.
func sameFunc(a impl.Func, b impl.Func) bool {
	return a.Seen == b.Seen && slices.Equal(a.Args, b.Args) && slices.Equal(a.Rets, b.Rets) &&
		slices.Equal(a.Locals, b.Locals) && slices.Equal(a.Takes, b.Takes) && slices.Equal(a.Code, b.Code)
}

func sameRecord(a impl.Record, b impl.Record) bool {
	return a.Able == b.Able && slices.Equal(a.Fields, b.Fields)
}

func sameModule(a impl.Module, b impl.Module) bool {
	return slices.EqualFunc(a.Records, b.Records, sameRecord) &&
		slices.EqualFunc(a.Funcs, b.Funcs, sameFunc) && slices.Equal(a.Friends, b.Friends)
}

// risesTo reports whether numbers are among those from a least one to a greatest one, in order, none twice.
func risesTo(numbers []int, least int, most int) bool {
	in := []int{}
	for n := least; n <= most; n++ {
		if slices.Contains(numbers, n) {
			in = append(in, n)
		}
	}
	return slices.Equal(in, numbers)
}

// funcWanted tells by the document's words whether a function may stand in a module of a shelf with good kinds.
func funcWanted(shelf []impl.Module, m int, f impl.Func) bool {
	kinds := [][]impl.Record{}
	for _, module := range shelf[:m+1] {
		kinds = append(kinds, module.Records)
	}
	for _, t := range slices.Concat(f.Args, f.Rets, f.Locals) {
		if ableWanted(kinds, t) == -1 {
			return false
		}
	}
	for _, i := range f.Code {
		if insWanted(i) == "" || strings.HasPrefix(insWanted(i), "call ") && i.A > m {
			return false
		}
	}
	return slices.Contains([]int{0, 1, 2}, f.Seen) && len(f.Args) <= 3 && len(f.Rets) <= 3 && len(f.Args)+len(f.Locals) <= 6 &&
		risesTo(f.Takes, 0, len(shelf[m].Records)-1) && len(f.Code) >= 1 && len(f.Code) <= 40
}

// shapeWanted tells by the document's words whether a shelf has the shape.
func shapeWanted(shelf []impl.Module) bool {
	kinds := [][]impl.Record{}
	for _, module := range shelf {
		kinds = append(kinds, module.Records)
	}
	if m, _ := badWanted(kinds); m != -1 {
		return false
	}
	for m, module := range shelf {
		if len(module.Funcs) > 4 || !risesTo(module.Friends, m+1, len(shelf)-1) {
			return false
		}
		for _, f := range module.Funcs {
			if !funcWanted(shelf, m, f) {
				return false
			}
		}
	}
	return true
}

// moduleTextWanted tells by the document's words the text of a module.
func moduleTextWanted(m impl.Module) string {
	lines := [][]string{}
	for _, record := range m.Records {
		lines = append(lines, append([]string{"record", strconv.Itoa(record.Able)}, record.Fields...))
	}
	if len(m.Friends) > 0 {
		lines = append(lines, append([]string{"friend"}, itoas(m.Friends)...))
	}
	for _, f := range m.Funcs {
		head := slices.Concat([]string{"func", strconv.Itoa(f.Seen)}, f.Args, []string{":"}, f.Rets, []string{":"}, f.Locals, []string{":"}, itoas(f.Takes))
		lines = append(lines, head)
		for _, i := range f.Code {
			lines = append(lines, insLineWanted(i))
		}
	}
	text := ""
	for _, line := range lines {
		text += strings.Join(line, " ") + "\n"
	}
	return text
}

// itoas returns numbers in decimal.
func itoas(numbers []int) []string {
	texts := []string{}
	for _, n := range numbers {
		texts = append(texts, strconv.Itoa(n))
	}
	return texts
}

// insLineWanted returns the word of an instruction, and as many numbers as the table says, whatever they are.
func insLineWanted(i impl.Ins) []string {
	many := 0
	for _, w := range wordsOfTable() {
		if w.op == i.Op {
			many = w.many
		}
	}
	return []string{i.Op, strconv.Itoa(i.A), strconv.Itoa(i.B)}[:1+many]
}

// These match the lines of a text that is read, and the sorts of lines in order.
var (
	recordWanted = regexp.MustCompile(`\Arecord ([0-9]|[1-9][0-9])( [&!]?([nbo]|S[0-9][0-9])){0,9}\z`)
	friendWanted = regexp.MustCompile(`\Afriend( ([0-9]|[1-9][0-9])){1,9}\z`)
	headWanted   = regexp.MustCompile(`\Afunc ([0-9]|[1-9][0-9])(( [&!]?([nbo]|S[0-9][0-9])){0,9} :){3}( ([0-9]|[1-9][0-9])){0,9}\z`)
	orderWanted  = regexp.MustCompile(`\Ar{0,3}f?(h(i{0,40})){0,4}\z`)
)

// readWanted tells by the document's words whether a text is read.
func readWanted(s string) bool {
	lines, ended := strings.CutSuffix(s, "\n")
	if !ended {
		return s == ""
	}
	order := ""
	for line := range strings.SplitSeq(lines, "\n") {
		word, numbers, _ := strings.Cut(line, " ")
		first, second, _ := strings.Cut(numbers, " ")
		a, _ := strconv.Atoi(first)
		b, _ := strconv.Atoi(second)
		switch {
		case recordWanted.MatchString(line):
			order += "r"
		case friendWanted.MatchString(line):
			order += "f"
		case headWanted.MatchString(line):
			order += "h"
		case line != "" && insWanted(impl.Ins{Op: word, A: a, B: b}) == line:
			order += "i"
		default:
			return false
		}
	}
	return orderWanted.MatchString(order)
}

// checkModuleRead holds ModuleRead of a text against what the document's words tell of it.
func checkModuleRead(t *testing.T, s string) bool {
	t.Helper()
	m, ok := impl.ModuleRead(s)
	if ok != readWanted(s) {
		t.Errorf("ModuleRead of %.300q told %v", s, ok)
	}
	if !ok && !sameModule(m, impl.Module{}) {
		t.Errorf("ModuleRead of %.300q told false, and a module", s)
	}
	if ok && impl.ModuleText(m) != s {
		t.Errorf("ModuleText of what was read of %.300q is %.300q", s, impl.ModuleText(m))
	}
	return ok
}

// checkModuleNone holds that a text is that of no module.
func checkModuleNone(t *testing.T, s string) {
	t.Helper()
	if checkModuleRead(t, s) {
		t.Errorf("ModuleRead of %.300q told true", s)
	}
}

// someOf returns up to a number of things, by chance.
func someOf[T any](r *rand.Rand, most int, things []T) []T {
	list := []T{}
	for range r.Intn(most + 1) {
		if len(things) > 0 {
			list = append(list, things[r.Intn(len(things))])
		}
	}
	return list
}

// someAscending returns some of the numbers from a least one to below an end, ascending, by chance.
func someAscending(r *rand.Rand, least int, end int) []int {
	list := []int{}
	for n := least; n < end; n++ {
		if r.Intn(2) == 0 {
			list = append(list, n)
		}
	}
	return list
}

// someFunc returns a good function of a module, which may call modules up to its own and has types of a list, by chance.
func someFunc(r *rand.Rand, types []string, m int, records int, texts []string) impl.Func {
	f := impl.Func{Seen: r.Intn(3), Args: someOf(r, 3, types), Rets: someOf(r, 3, types), Takes: someAscending(r, 0, records)}
	f.Locals = someOf(r, 6-len(f.Args), types)
	for range 1 + r.Intn(12)*r.Intn(5) {
		i, _ := impl.InsRead(texts[r.Intn(len(texts))])
		if i.Op == "call" {
			i.A = r.Intn(m + 1)
		}
		f.Code = append(f.Code, i)
	}
	f.Code = f.Code[:min(40, len(f.Code))]
	return f
}

// shelvesSome are good shelves, by chance, always the same ones.
func shelvesSome(many int) [][]impl.Module {
	r := rand.New(rand.NewSource(4))
	texts := []string{}
	for text := range insTexts() {
		texts = append(texts, text)
	}
	slices.Sort(texts)
	good := slices.DeleteFunc(kindsMany(), func(kinds [][]impl.Record) bool { return !impl.KindsOk(kinds) })
	shelves := [][]impl.Module{}
	for range many {
		kinds := good[r.Intn(len(good))]
		shelf := make([]impl.Module, len(kinds))
		for m, records := range kinds {
			types := slices.DeleteFunc(typesSome(), func(t string) bool { return ableWanted(kinds[:m+1], t) == -1 })
			shelf[m].Records = records
			shelf[m].Friends = someAscending(r, m+1, len(kinds))
			for range r.Intn(5) {
				shelf[m].Funcs = append(shelf[m].Funcs, someFunc(r, types, m, len(records), texts))
			}
		}
		shelves = append(shelves, shelf)
	}
	return shelves
}

// spoiltShelf changes something of a shelf, by chance, so that it often has the shape no longer.
func spoiltShelf(r *rand.Rand, shelf []impl.Module) {
	m := r.Intn(len(shelf))
	module := &shelf[m]
	numbers := []int{-1, 0, 1, 2, 3, 4}
	types := []string{"n", "&b", "S00", "S01", "!S10", "S20", "S22", "S03", "S30", "x", "", "&", "&&n"}
	if len(module.Funcs) == 0 || r.Intn(6) == 0 {
		module.Friends = someOf(r, 3, numbers)
		return
	}
	f := &module.Funcs[r.Intn(len(module.Funcs))]
	switch r.Intn(8) {
	case 0:
		f.Seen = numbers[r.Intn(len(numbers))]
	case 1:
		f.Args = append(slices.Clone(f.Args), someOf(r, 2, types)...)
	case 2:
		f.Rets = append(slices.Clone(f.Rets), someOf(r, 2, types)...)
	case 3:
		f.Locals = append(slices.Clone(f.Locals), someOf(r, 3, types)...)
	case 4:
		f.Takes = someOf(r, 4, numbers)
	case 5:
		f.Code = append(slices.Clone(f.Code), ins("call", r.Intn(4), r.Intn(5)))
	case 6:
		f.Code = slices.Repeat([]impl.Ins{ins("me")}, 39+r.Intn(3))
	case 7:
		f.Code = someOf(r, 1, f.Code)
	}
}

func TestModuleConstants(t *testing.T) {
	got := []int{impl.SeenOwn, impl.SeenFriends, impl.SeenAll}
	if !slices.Equal(got, []int{0, 1, 2}) {
		t.Errorf("the constants are %v", got)
	}
}

// checkShelfKinds holds ShelfKinds against the records of the modules.
func checkShelfKinds(t *testing.T, shelf []impl.Module) {
	t.Helper()
	kinds := impl.ShelfKinds(shelf)
	if len(kinds) != len(shelf) {
		t.Fatalf("of %d modules there are %d lists", len(shelf), len(kinds))
	}
	for m, records := range kinds {
		if !slices.EqualFunc(records, shelf[m].Records, sameRecord) {
			t.Errorf("the records of module %d are %v", m, records)
		}
	}
}

// TestShelfKinds goes on to shelves with too many modules, and to records that are none.
func TestShelfKinds(t *testing.T) {
	checkShelfKinds(t, nil)
	checkShelfKinds(t, []impl.Module{})
	checkShelfKinds(t, []impl.Module{{}, {Funcs: []impl.Func{small()}}})
	checkShelfKinds(t, shelfGood())
	checkShelfKinds(t, append(shelfGood(), shelfGood()...))
	for _, kinds := range kindsMany() {
		shelf := make([]impl.Module, len(kinds))
		for m := range kinds {
			shelf[m].Records = kinds[m]
		}
		checkShelfKinds(t, shelf)
	}
}

func TestShelfKindsApart(t *testing.T) {
	shelf := shelfGood()
	a, b := impl.ShelfKinds(shelf), impl.ShelfKinds(shelf)
	for _, records := range a {
		_ = append(records, rec(9))
		for i := range records {
			records[i].Able = 99
			_ = append(records[i].Fields, "x", "x", "x", "x")
			for j := range records[i].Fields {
				records[i].Fields[j] = "y"
			}
		}
	}
	for m, records := range b {
		if !reflect.DeepEqual(shelf, shelfGood()) || !slices.EqualFunc(records, shelfGood()[m].Records, sameRecord) {
			t.Fatal("a change of the kinds goes through")
		}
	}
}

// TestShelfShapeGood holds that limits are inclusive, and that nothing need be there.
func TestShelfShapeGood(t *testing.T) {
	full := small()
	full.Args, full.Rets, full.Locals = []string{"n", "b", "o"}, []string{"&n", "!S00", "S00"}, []string{"n", "n", "n"}
	full.Code = slices.Repeat([]impl.Ins{ins("me")}, 40)
	for i, shelf := range [][]impl.Module{
		nil, {}, {{}}, {{}, {}, {}}, shelfGood(), {{Funcs: []impl.Func{small()}}},
		{{Friends: []int{1}}, {}}, {{Friends: []int{2}}, {}, {}}, {{Friends: []int{1, 2}}, {Friends: []int{2}}, {}},
		{{Records: []impl.Record{rec(4, "n")}, Funcs: []impl.Func{full, full, full, full}}},
	} {
		if !impl.ShelfShape(shelf) || !shapeWanted(shelf) {
			t.Errorf("shelf %d has not the shape", i)
		}
	}
}

// TestShelfShapeFaults spoils one thing of a good shelf at a time.
func TestShelfShapeFaults(t *testing.T) {
	me := slices.Repeat([]impl.Ins{ins("me")}, 41)
	for name, spoil := range map[string]func(shelf []impl.Module, f *impl.Func){
		"too many functions":                   func(s []impl.Module, f *impl.Func) { s[2].Funcs = append(s[2].Funcs, small()) },
		"a record that is none":                func(s []impl.Module, f *impl.Func) { s[2].Records[0].Able = 16 },
		"a record with abilities too many":     func(s []impl.Module, f *impl.Func) { s[1].Records[0].Able = 7 },
		"too many records":                     func(s []impl.Module, f *impl.Func) { s[1].Records = []impl.Record{rec(4), rec(0), rec(0), rec(0)} },
		"too many fields":                      func(s []impl.Module, f *impl.Func) { s[2].Records[0].Fields = []string{"n", "n", "n", "n"} },
		"a field of a later module":            func(s []impl.Module, f *impl.Func) { s[0].Records[2].Fields[0] = "S10" },
		"a negative friend":                    func(s []impl.Module, f *impl.Func) { s[0].Friends[0] = -1 },
		"a friend that is the module":          func(s []impl.Module, f *impl.Func) { s[0].Friends[0] = 0 },
		"a friend that is an earlier module":   func(s []impl.Module, f *impl.Func) { s[1].Friends[0] = 0 },
		"a friend of the last module":          func(s []impl.Module, f *impl.Func) { s[2].Friends = []int{2} },
		"a friend that is no module":           func(s []impl.Module, f *impl.Func) { s[0].Friends[1] = 3 },
		"friends that fall":                    func(s []impl.Module, f *impl.Func) { s[0].Friends = []int{2, 1} },
		"a friend twice":                       func(s []impl.Module, f *impl.Func) { s[0].Friends = []int{1, 1} },
		"a last friend twice":                  func(s []impl.Module, f *impl.Func) { s[0].Friends = []int{1, 2, 2} },
		"a sight below all":                    func(s []impl.Module, f *impl.Func) { f.Seen = -1 },
		"a sight above all":                    func(s []impl.Module, f *impl.Func) { f.Seen = 3 },
		"an argument too many":                 func(s []impl.Module, f *impl.Func) { f.Args, f.Locals = []string{"n", "n", "n", "n"}, nil },
		"a result too many":                    func(s []impl.Module, f *impl.Func) { f.Rets = []string{"n", "n", "n", "n"} },
		"a place too many":                     func(s []impl.Module, f *impl.Func) { f.Locals = append(f.Locals, "n") },
		"a place too many without arguments":   func(s []impl.Module, f *impl.Func) { s[0].Funcs[2].Locals = append(s[0].Funcs[2].Locals, "n") },
		"places too many by an argument":       func(s []impl.Module, f *impl.Func) { s[0].Funcs[2].Args = []string{"n"} },
		"an argument of a later module":        func(s []impl.Module, f *impl.Func) { f.Args[2] = "S10" },
		"a result of a later module":           func(s []impl.Module, f *impl.Func) { f.Rets[0] = "&S10" },
		"a place of a later module":            func(s []impl.Module, f *impl.Func) { f.Locals[1] = "!S20" },
		"an argument without a type":           func(s []impl.Module, f *impl.Func) { f.Args[0] = "" },
		"a result that is no type":             func(s []impl.Module, f *impl.Func) { f.Rets[2] = "&&n" },
		"a place that is no type":              func(s []impl.Module, f *impl.Func) { f.Locals[2] = "S1" },
		"an argument of a kind that is not":    func(s []impl.Module, f *impl.Func) { f.Args[0] = "S03" },
		"Takes that fall":                      func(s []impl.Module, f *impl.Func) { f.Takes = []int{2, 0} },
		"a record taken twice":                 func(s []impl.Module, f *impl.Func) { f.Takes = []int{0, 0} },
		"a negative record taken":              func(s []impl.Module, f *impl.Func) { f.Takes = []int{-1} },
		"a record taken that is none":          func(s []impl.Module, f *impl.Func) { f.Takes = []int{0, 3} },
		"a record taken of a later module":     func(s []impl.Module, f *impl.Func) { s[2].Funcs[0].Takes = []int{1} },
		"no instructions":                      func(s []impl.Module, f *impl.Func) { f.Code = nil },
		"an instruction too many":              func(s []impl.Module, f *impl.Func) { f.Code = me },
		"an instruction that is none":          func(s []impl.Module, f *impl.Func) { f.Code[0] = ins("copy", 6) },
		"an instruction without a word":        func(s []impl.Module, f *impl.Func) { f.Code[2] = impl.Ins{} },
		"a number that is not needed":          func(s []impl.Module, f *impl.Func) { f.Code[1] = ins("num", 1, 1) },
		"a call of a later module":             func(s []impl.Module, f *impl.Func) { f.Code[0] = ins("call", 1, 0) },
		"a call of the last module":            func(s []impl.Module, f *impl.Func) { f.Code[2] = ins("call", 2, 0) },
		"a call of a later module by another":  func(s []impl.Module, f *impl.Func) { s[1].Funcs[0].Code[1] = ins("call", 2, 0) },
		"a call of a module that is none":      func(s []impl.Module, f *impl.Func) { s[2].Funcs[0].Code[1] = ins("call", 3, 0) },
		"a call of a negative module":          func(s []impl.Module, f *impl.Func) { s[2].Funcs[0].Code[1] = ins("call", -1, 0) },
		"a fault of the last function of them": func(s []impl.Module, f *impl.Func) { s[2].Funcs[3].Seen = 3 },
	} {
		shelf := shelfGood()
		spoil(shelf, &shelf[0].Funcs[1])
		if impl.ShelfShape(shelf) || shapeWanted(shelf) {
			t.Errorf("%s: the shelf has the shape", name)
		}
	}
	if impl.ShelfShape(append(shelfGood(), impl.Module{})) || impl.ShelfShape(make([]impl.Module, 1000)) {
		t.Error("a shelf with too many modules has the shape")
	}
}

// TestShelfShapeTypes puts each of many types into each module, as an argument, a result and a place.
func TestShelfShapeTypes(t *testing.T) {
	for m := range 3 {
		for _, text := range typesSome() {
			want := ableWanted(impl.ShelfKinds(shelfGood())[:m+1], text) != -1
			for at := range 3 {
				shelf := shelfGood()
				f := small()
				switch at {
				case 0:
					f.Args = []string{text}
				case 1:
					f.Rets = []string{"n", text}
				case 2:
					f.Locals = []string{"n", "b", text}
				}
				shelf[m].Funcs[0] = f
				if impl.ShelfShape(shelf) != want {
					t.Errorf("with the type %q at %d of module %d ShelfShape told %v", text, at, m, !want)
				}
			}
		}
	}
}

// TestShelfShapeNumbers goes through all short lists of friends and Takes.
func TestShelfShapeNumbers(t *testing.T) {
	some := []int{math.MinInt, -1, 0, 1, 2, 3, math.MaxInt}
	lists := [][]int{nil}
	for _, a := range some {
		lists = append(lists, []int{a})
		for _, b := range some {
			lists = append(lists, []int{a, b})
			for _, c := range some {
				lists = append(lists, []int{a, b, c}, []int{a, b, c, 3})
			}
		}
	}
	for _, list := range lists {
		for m := range 3 {
			shelf := shelfGood()
			shelf[m].Friends = list
			if impl.ShelfShape(shelf) != risesTo(list, m+1, 2) {
				t.Errorf("ShelfShape with friends %v of module %d told %v", list, m, impl.ShelfShape(shelf))
			}
			shelf = shelfGood()
			shelf[m].Funcs[0].Takes = list
			if impl.ShelfShape(shelf) != risesTo(list, 0, len(shelf[m].Records)-1) {
				t.Errorf("ShelfShape with Takes %v of module %d told %v", list, m, impl.ShelfShape(shelf))
			}
		}
	}
}

// TestShelfShapeCalls holds that a call of a later module is the only good instruction that may not stand.
func TestShelfShapeCalls(t *testing.T) {
	for text, i := range insTexts() {
		for m := range 3 {
			shelf := shelfGood()
			shelf[m].Funcs[0].Code[0] = i
			want := i.Op != "call" || i.A <= m
			if impl.ShelfShape(shelf) != want {
				t.Errorf("with %q in module %d ShelfShape told %v", text, m, !want)
			}
		}
	}
}

// TestShelfShapeCounts goes through the numbers of places of all sorts, and of instructions and functions.
func TestShelfShapeCounts(t *testing.T) {
	check := func(f impl.Func, funcs int) {
		t.Helper()
		shelf := []impl.Module{{Funcs: slices.Repeat([]impl.Func{f}, funcs)}}
		if want := shapeWanted(shelf); impl.ShelfShape(shelf) != want {
			t.Errorf("with %d %d %d places, %d instructions and %d functions ShelfShape told %v", len(f.Args), len(f.Rets), len(f.Locals), len(f.Code), funcs, !want)
		}
	}
	for n := range 8 * 8 * 8 {
		f := small()
		f.Args, f.Rets, f.Locals = slices.Repeat([]string{"n"}, n%8), slices.Repeat([]string{"b"}, n/8%8), slices.Repeat([]string{"o"}, n/64)
		check(f, 1)
	}
	for n := range 100 {
		check(impl.Func{Code: slices.Repeat([]impl.Ins{ins("ret")}, n)}, 1)
		check(small(), n)
	}
}

func TestShelfShapeMany(t *testing.T) {
	r := rand.New(rand.NewSource(5))
	c := tally{}
	for _, shelf := range shelvesSome(3000) {
		if !impl.ShelfShape(shelf) {
			t.Fatalf("the shelf %v has not the shape", shelf)
		}
		if len(shelf) == 0 {
			continue
		}
		spoiltShelf(r, shelf)
		want := shapeWanted(shelf)
		if impl.ShelfShape(shelf) != want {
			t.Fatalf("ShelfShape of %v told %v", shelf, !want)
		}
		c.count(want)
	}
	c.enough(t, 200, 200)
}

// TestShelfShapeKinds takes kinds of all sorts into modules without functions.
func TestShelfShapeKinds(t *testing.T) {
	for _, kinds := range kindsMany() {
		shelf := make([]impl.Module, len(kinds))
		for m := range kinds {
			shelf[m].Records = kinds[m]
		}
		m, _ := badWanted(kinds)
		if impl.ShelfShape(shelf) != (m == -1) {
			t.Fatalf("ShelfShape with the kinds %v told %v", kinds, m != -1)
		}
	}
}

func TestShelfFunc(t *testing.T) {
	shelf := append(shelfGood(), impl.Module{Funcs: slices.Repeat([]impl.Func{{Seen: 77, Args: []string{"x"}}}, 6)})
	numbers := []int{math.MinInt, -2, -1, 0, 1, 2, 3, 4, 5, 6, 7, math.MaxInt}
	for _, m := range numbers {
		for _, f := range numbers {
			want := impl.Func{}
			there := m >= 0 && m < 4 && f >= 0 && f < []int{3, 1, 4, 6}[m]
			if there {
				want = shelf[m].Funcs[f]
			}
			if got, ok := impl.ShelfFunc(shelf, m, f); ok != there || !sameFunc(got, want) {
				t.Errorf("ShelfFunc of %d %d told %v %v", m, f, got, ok)
			}
		}
	}
	if got, ok := impl.ShelfFunc(nil, 0, 0); ok || !sameFunc(got, impl.Func{}) {
		t.Error("there is a function without a module")
	}
}

func TestShelfFuncApart(t *testing.T) {
	shelf := shelfGood()
	f := &shelf[0].Funcs[1]
	f.Takes = append(make([]int, 0, 9), f.Takes...)
	a, _ := impl.ShelfFunc(shelf, 0, 1)
	b, _ := impl.ShelfFunc(shelf, 0, 1)
	for _, list := range [][]string{a.Args, a.Rets, a.Locals} {
		_ = append(list, "z", "z", "z")
		for i := range list {
			list[i] = "x"
		}
	}
	_ = append(a.Takes, 9, 9)
	a.Takes[0], a.Code[0] = 8, ins("me")
	if !reflect.DeepEqual(shelf, shelfGood()) || !sameFunc(b, shelfGood()[0].Funcs[1]) {
		t.Error("a change of the function goes through")
	}
	if got := f.Takes[:4]; got[2] != 0 || got[3] != 0 {
		t.Error("what is put behind Takes of the result is behind those of the shelf")
	}
}

func TestFuncPlace(t *testing.T) {
	for args := range 8 {
		for locals := range 8 {
			f := impl.Func{Rets: []string{"o", "o", "o"}}
			places := map[int]string{}
			for n := range args {
				f.Args = append(f.Args, "a"+strconv.Itoa(n))
				places[n] = "a" + strconv.Itoa(n)
			}
			for n := range locals {
				f.Locals = append(f.Locals, "l"+strconv.Itoa(n))
				places[args+n] = "l" + strconv.Itoa(n)
			}
			for _, n := range numbersSome() {
				want, there := places[n]
				if got, ok := impl.FuncPlace(f, n); got != want || ok != there {
					t.Errorf("with %d arguments and %d more places FuncPlace of %d told %q %v", args, locals, n, got, ok)
				}
			}
		}
	}
}

// seenWanted tells by the document's words whether a module of a shelf may call a function.
func seenWanted(shelf []impl.Module, from int, m int, f int) bool {
	if from < 0 || from >= len(shelf) || m < 0 || m >= len(shelf) || f < 0 || f >= len(shelf[m].Funcs) || m > from {
		return false
	}
	seen := shelf[m].Funcs[f].Seen
	return seen == 2 || seen == 1 && slices.Contains(shelf[m].Friends, from) || m == from
}

func TestFuncSeen(t *testing.T) {
	funcs := []impl.Func{small(), small(), small(), small(), small()}
	for f := range funcs {
		funcs[f].Seen = []int{0, 1, 2, 3, -1}[f]
	}
	numbers := []int{math.MinInt, -1, 0, 1, 2, 3, 4, 5, math.MaxInt}
	for _, friends := range [][]int{nil, {1}, {2}, {1, 2}, {2, 1}, {0}, {-1, 3}} {
		for many := range 4 {
			shelf := make([]impl.Module, many)
			for m := range shelf {
				shelf[m] = impl.Module{Funcs: funcs[:len(funcs)-m/2], Friends: friends}
			}
			for _, from := range numbers {
				for _, m := range numbers {
					for _, f := range numbers {
						want := seenWanted(shelf, from, m, f)
						if impl.FuncSeen(shelf, from, m, f) != want {
							t.Errorf("of %d modules with friends %v FuncSeen of %d %d %d told %v", many, friends, from, m, f, !want)
						}
					}
				}
			}
		}
	}
}

// TestFuncSeenGood tells of the good shelf what may be called, in full.
func TestFuncSeenGood(t *testing.T) {
	shelf := shelfGood()
	shelf[0].Friends = []int{2}
	seen := []string{}
	for n := range 4 * 4 * 5 {
		if from, m, f := n/20, n/5%4, n%5; impl.FuncSeen(shelf, from, m, f) {
			seen = append(seen, strings.Join(itoas([]int{from, m, f}), ""))
		}
	}
	if got := strings.Join(seen, " "); got != "000 001 002 100 110 200 201 210 220 221 222 223" {
		t.Errorf("what may be called is %s", got)
	}
}

// TestModulesWritten tells of texts what they are.
func TestModulesWritten(t *testing.T) {
	for text, m := range map[string]impl.Module{
		"":                     {},
		"record 0\n":           {Records: []impl.Record{rec(0)}},
		"record 15 n b o\n":    {Records: []impl.Record{rec(15, "n", "b", "o")}},
		"friend 1\n":           {Friends: []int{1}},
		"friend 1 2\n":         {Friends: []int{1, 2}},
		"func 0 : : :\n":       {Funcs: []impl.Func{{}}},
		"func 1 : : :\nret\n":  {Funcs: []impl.Func{{Seen: 1, Code: []impl.Ins{ins("ret")}}}},
		"func 2 n : : :\n":     {Funcs: []impl.Func{{Seen: 2, Args: []string{"n"}}}},
		"func 2 : &n : :\n":    {Funcs: []impl.Func{{Seen: 2, Rets: []string{"&n"}}}},
		"func 2 : : !S00 :\n":  {Funcs: []impl.Func{{Seen: 2, Locals: []string{"!S00"}}}},
		"func 2 : : : 0 1\n":   {Funcs: []impl.Func{{Seen: 2, Takes: []int{0, 1}}}},
		"record 99 S99 &S10\n": {Records: []impl.Record{rec(99, "S99", "&S10")}},
		"record 4 n\nrecord 12 S00\nfriend 2\nfunc 1 n b : S00 &o : !S01 : 0\nfield 1 2\nnum 1000000\nfunc 0 : : :\n": {
			Records: []impl.Record{rec(4, "n"), rec(12, "S00")},
			Friends: []int{2},
			Funcs: []impl.Func{
				{Seen: 1, Args: []string{"n", "b"}, Rets: []string{"S00", "&o"}, Locals: []string{"!S01"}, Takes: []int{0}, Code: []impl.Ins{ins("field", 1, 2), ins("num", 1000000)}},
				{},
			},
		},
	} {
		if got := impl.ModuleText(m); got != text {
			t.Errorf("ModuleText told %q, not %q", got, text)
		}
		if got, ok := impl.ModuleRead(text); !ok || !sameModule(got, m) {
			t.Errorf("ModuleRead of %q told %v %v", text, got, ok)
		}
		checkModuleRead(t, text)
	}
}

// TestModuleTextWhatever writes modules that are good nowhere: numbers, words and types are written whatever they are.
func TestModuleTextWhatever(t *testing.T) {
	for text, m := range map[string]impl.Module{
		"record -5 x  n\n":                         {Records: []impl.Record{rec(-5, "x", "", "n")}},
		"friend -1 1 1 0\n":                        {Friends: []int{-1, 1, 1, 0}},
		"func -9223372036854775808 : : : 100 -3\n": {Funcs: []impl.Func{{Seen: math.MinInt, Takes: []int{100, -3}}}},
		"func 0 : : :\nnum -7\nfield 100 -1\ncall 9 1000\nme\nnope\n\njump 41\n": {Funcs: []impl.Func{{Code: []impl.Ins{
			ins("num", -7, 8), ins("field", 100, -1), ins("call", 9, 1000), ins("me", 5, 6), ins("nope", 3, 4), {}, ins("jump", 41, 1),
		}}}},
	} {
		if got := impl.ModuleText(m); got != text {
			t.Errorf("ModuleText told %q, not %q", got, text)
		}
	}
	many := impl.Module{Records: make([]impl.Record, 5), Funcs: make([]impl.Func, 6)}
	if got := impl.ModuleText(many); got != strings.Repeat("record 0\n", 5)+strings.Repeat("func 0 : : :\n", 6) {
		t.Errorf("ModuleText of a module with too much told %q", got)
	}
}

// nine returns a text nine times.
func nine(s string) string { return strings.Repeat(s, 9) }

// TestModuleReadLimits goes to the limits of what is read, and one beyond.
func TestModuleReadLimits(t *testing.T) {
	records := strings.Repeat("record 99"+nine(" &S99")+"\n", 3)
	friends := "friend" + nine(" 99") + "\n"
	head := "func 99" + nine(" !S98") + " :" + nine(" &S97") + " :" + nine(" S96") + " :" + nine(" 99") + "\n"
	code := strings.Repeat("num 1000000\n", 40)
	whole := records + friends + strings.Repeat(head+code, 4)
	if !checkModuleRead(t, whole) {
		t.Error("a text with all that there may be is none")
	}
	for name, text := range map[string]string{
		"a record":         "record 0\n" + whole,
		"a function":       whole + "func 0 : : :\n",
		"an instruction":   whole + "ret\n",
		"a field":          strings.Replace(whole, "&S99\n", "&S99 n\n", 1),
		"a friend":         strings.Replace(whole, friends, "friend 1"+nine(" 99")+"\n", 1),
		"an argument":      strings.Replace(whole, "func 99", "func 99 n", 1),
		"a result":         strings.Replace(whole, ": &S97", ": n &S97", 1),
		"a place":          strings.Replace(whole, ": S96", ": n S96", 1),
		"what is taken":    strings.Replace(whole, ": 99", ": 1 99", 1),
		"an able":          strings.Replace(whole, "record 99", "record 100", 1),
		"a sight":          strings.Replace(whole, "func 99", "func 100", 1),
		"a friend's digit": strings.Replace(whole, "friend 99", "friend 100", 1),
		"a taken's digit":  strings.Replace(whole, ": 99", ": 100", 1),
		"a number":         strings.Replace(whole, "num 1000000", "num 1000001", 1),
		"two friend lines": strings.Replace(whole, friends, "friend 1\nfriend 2\n", 1),
	} {
		if text == whole {
			t.Errorf("%s: nothing was changed", name)
		}
		checkModuleNone(t, text)
	}
	for n := range 100 {
		if !checkModuleRead(t, "record "+strconv.Itoa(n)+"\nfriend "+strconv.Itoa(n)+"\nfunc "+strconv.Itoa(n)+" : : : "+strconv.Itoa(n)+"\n") {
			t.Errorf("the number %d is none", n)
		}
	}
}

// TestModuleReadNone reads texts with one fault each.
func TestModuleReadNone(t *testing.T) {
	for _, text := range []string{
		" ", "\n", "\n\n", "\x00", "x", "x\n", "\xff\n", "record", "friend", "func", "record\n", "friend\n", "func\n", "record \n", "friend \n", "func \n",
		"record 12  n\n", "record  12 n\n", " record 12 n\n", "record 12 n \n", "record 12 n", "record 12 n\r\n", "record 12 n\n\n", "\nrecord 12 n\n", "record\t12 n\n", "record 12 n\t\n",
		"record n\n", "record n 12\n", "record 12 12\n", "record 012 n\n", "record 00\n", "record 01\n", "record +1\n", "record -1\n", "record -0\n", "record 1.\n", "record 0x1\n", "record 1_0\n", "record 100\n", "record 999999999999999999999\n", "record ٣\n", "record 12 :\n", "record : n\n",
		"record 12 n,b\n", "record 12 nb\n", "record 12 N\n", "record 12 S\n", "record 12 S0\n", "record 12 S000\n", "record 12 S0a\n", "record 12 S+1\n", "record 12 S-1\n", "record 12 s00\n", "record 12 &\n", "record 12 &&n\n", "record 12 &!n\n", "record 12 n&\n", "record 12 S٠\n", "record 12 x\n", "Record 12 n\n", "records 12 n\n",
		"friend  1\n", "friend 1 \n", "friend 1  2\n", "friend 1", "friend n\n", "friend 1 n\n", "friend :\n", "friend 01\n", "friend +1\n", "friend -1\n", "friend 1\nrecord 0\n", "friend 1\nfriend 2\n", "friend 1\nfriend\n", "friend 1\nret\n", "friends 1\n",
		"func 2 n : : :", "func 2 n : : : \n", "func 2 n : :  :\n", "func 2 n :  : :\n", "func 2 n  : : :\n", "func 2  n : : :\n", "func  2 n : : :\n", "func 2 n : : :  1\n", "func 2 n : : : 1 \n", "func 2 n : : : 1  2\n", " func 2 n : : :\n",
		"func 2 n : :\n", "func 2 n : : : :\n", "func 2 n : : : 1 :\n", "func 2 n\n", "func : : :\n", "func n : : :\n", "func 2 1 : : :\n", "func 2 : 1 : :\n", "func 2 : : 1 :\n", "func 2 : : : n\n", "func 2 : : : 1 n\n", "func 2 n: : :\n", "func 2 :::\n", "func 2 : : :1\n",
		"func 02 : : :\n", "func +2 : : :\n", "func -2 : : :\n", "func 2 : : : 01\n", "func 2 : : : +1\n", "func 2 : : : -1\n", "func 2 : : : 100\n", "func 100 : : :\n", "func 2 x : : :\n", "func 2 : &!n : :\n", "func 2 : : S0 :\n",
		"func 0 : : :\nrecord 0\n", "func 0 : : :\nfriend 1\n", "record 0\nfunc 0 : : :\nrecord 0\n", "friend 1\nfunc 0 : : :\nfriend 2\n",
		"ret\n", "record 0\nret\n", "ret\nfunc 0 : : :\n", "num 1\nfunc 0 : : :\nret\n",
		"func 0 : : :\nret", "func 0 : : :\nret \n", "func 0 : : :\n ret\n", "func 0 : : :\n\nret\n", "func 0 : : :\nret\n\n", "func 0 : : :\nnum  1\n", "func 0 : : :\nnum 1 \n", "func 0 : : :\nnum 01\n", "func 0 : : :\nnum +1\n", "func 0 : : :\nnum -1\n", "func 0 : : :\nnum 1000001\n", "func 0 : : :\nnum\n", "func 0 : : :\nret 0\n", "func 0 : : :\nnope\n", "func 0 : : :\ncopy 6\n", "func 0 : : :\ncall 3 0\n", "func 0 : : :\ncall 0 4\n", "func 0 : : :\nfield 1\n", "func 0 : : :\nfield 1  2\n", "func 0 : : :\nRET\n", "func 0 : : :\nret\r\n", "func 0 : : :\nret;\n",
	} {
		checkModuleNone(t, text)
	}
}

// TestModuleReadLong reads texts that are too long, each at once.
func TestModuleReadLong(t *testing.T) {
	for _, n := range []int{3999, 4000, 4001, 4002, 100000, 10000000} {
		for _, s := range []string{" ", "\n", "n", "0", "ret\n", "record 0\n", "func 0 : : :\n", "friend 1\n", " :", " 1"} {
			text := strings.Repeat(s, n/len(s)+1)[:n]
			for _, head := range []string{"", "record 0", "func 0 : : :", "func 0 : : :\n"} {
				if m, ok := impl.ModuleRead(head + text); ok || !sameModule(m, impl.Module{}) {
					t.Errorf("ModuleRead of %d times %q told true", n, s)
				}
			}
		}
	}
}

// textsOfModules are texts of good modules, and texts near to them, by chance.
func textsOfModules() []string {
	r := rand.New(rand.NewSource(6))
	list := []string{}
	bits := []string{" ", "\n", "  ", "0", "1", "9", "-", "+", ":", " :", "n", "&", "!", "S", "S00", "record 0\n", "friend 1\n", "func 1 : : :\n", "ret\n", "num 7\n", "\x00", "b", "o "}
	for _, shelf := range append(shelvesSome(300), shelfGood()) {
		for _, module := range shelf {
			text := moduleTextWanted(module)
			list = append(list, text)
			for range 20 {
				at, to := r.Intn(len(text)+1), r.Intn(len(text)+1)
				if r.Intn(3) > 0 {
					to = min(len(text), at+r.Intn(3))
				}
				list = append(list, text[:at]+bits[r.Intn(len(bits))]+text[at:], text[:min(at, to)]+text[max(at, to):], text[:at]+bits[r.Intn(len(bits))]+text[max(at, to):], text[:at])
			}
		}
	}
	return list
}

func TestModulesApart(t *testing.T) {
	text := moduleTextWanted(shelfGood()[0])
	a, _ := impl.ModuleRead(text)
	b, _ := impl.ModuleRead(text)
	a.Friends[0], a.Records[0].Able, a.Records[0].Fields[0] = 9, 9, "x"
	_ = append(b.Records[0].Fields, "x", "x", "x")
	_ = append(b.Friends, 9, 9, 9)
	for f := range a.Funcs {
		_, _ = append(b.Funcs[f].Code, ins("me"), ins("me")), append(b.Funcs[f].Args, "x", "x", "x")
		_, _ = append(b.Funcs[f].Rets, "x", "x", "x"), append(b.Funcs[f].Locals, "x", "x", "x")
		a.Funcs[f].Code[0] = ins("me")
	}
	if !sameModule(b, shelfGood()[0]) {
		t.Error("a change of a module that was read goes through")
	}
	shelf := shelfGood()
	impl.ShelfShape(shelf)
	impl.FuncSeen(shelf, 1, 0, 0)
	impl.ModuleText(shelf[0])
	impl.FuncPlace(shelf[0].Funcs[0], 0)
	if !reflect.DeepEqual(shelf, shelfGood()) {
		t.Error("a shelf was changed")
	}
}

func TestPromise16(t *testing.T) {
	for _, shelf := range append(shelvesSome(500), shelfGood(), nil, make([]impl.Module, 7)) {
		checkShelfKinds(t, shelf)
	}
}

func TestPromise17(t *testing.T) {
	r := rand.New(rand.NewSource(7))
	for _, shelf := range append(shelvesSome(1000), shelfGood()) {
		if len(shelf) > 0 && r.Intn(2) == 0 {
			spoiltShelf(r, shelf)
		}
		if !impl.ShelfShape(shelf) {
			continue
		}
		if !impl.KindsOk(impl.ShelfKinds(shelf)) {
			t.Fatalf("the shelf %v has the shape, and its kinds are none", shelf)
		}
		for m, module := range shelf {
			for f := range module.Funcs {
				if got, ok := impl.ShelfFunc(shelf, m, f); !ok || !sameFunc(got, module.Funcs[f]) {
					t.Fatalf("ShelfFunc of %d %d told %v %v", m, f, got, ok)
				}
			}
		}
	}
}

func TestPromise18(t *testing.T) {
	for _, shelf := range append(shelvesSome(200), shelfGood(), make([]impl.Module, 5)) {
		for m := -1; m <= len(shelf); m++ {
			for f := -1; f <= 5; f++ {
				got, ok := impl.ShelfFunc(shelf, m, f)
				if there := m >= 0 && m < len(shelf) && f >= 0 && f < len(shelf[m].Funcs); ok != there {
					t.Fatalf("ShelfFunc of %d %d told %v", m, f, ok)
				}
				if ok && !sameFunc(got, shelf[m].Funcs[f]) || !ok && !sameFunc(got, impl.Func{}) {
					t.Fatalf("ShelfFunc of %d %d told %v", m, f, got)
				}
			}
		}
	}
}

func TestPromise19(t *testing.T) {
	for _, shelf := range append(shelvesSome(300), shelfGood()) {
		for _, module := range shelf {
			for _, f := range module.Funcs {
				for n := range len(f.Args) + len(f.Locals) + 2 {
					want, there := "", false
					if n < len(f.Args) {
						want, there = f.Args[n], true
					} else if n-len(f.Args) < len(f.Locals) {
						want, there = f.Locals[n-len(f.Args)], true
					}
					if got, ok := impl.FuncPlace(f, n); got != want || ok != there {
						t.Fatalf("FuncPlace of %v and %d told %q %v", f, n, got, ok)
					}
				}
			}
		}
	}
}

func TestPromise20(t *testing.T) {
	for _, shelf := range append(shelvesSome(300), shelfGood()) {
		for m, module := range shelf {
			for f := range 6 {
				if impl.FuncSeen(shelf, m, m, f) != (f < len(module.Funcs)) {
					t.Fatalf("FuncSeen of the module's own function %d %d is wrong", m, f)
				}
				for from := range m {
					if impl.FuncSeen(shelf, from, m, f) {
						t.Fatalf("FuncSeen of %d holds of the later module %d", from, m)
					}
				}
			}
		}
	}
}

func TestPromise21(t *testing.T) {
	c := tally{}
	for _, shelf := range append(shelvesSome(4000), shelfGood(), []impl.Module{{}}) {
		for _, module := range shelf[:min(1, len(shelf))] {
			module.Friends = nil
			if !impl.ShelfShape([]impl.Module{module}) {
				t.Fatalf("the module %v is not good alone", module)
			}
			c.count(true)
			text := impl.ModuleText(module)
			if got, ok := impl.ModuleRead(text); text != moduleTextWanted(module) || !ok || !sameModule(got, module) {
				t.Fatalf("ModuleRead of %q told %v %v", text, got, ok)
			}
		}
	}
	c.enough(t, 1000, 0)
}

func TestPromise22(t *testing.T) {
	c := tally{}
	for _, text := range textsOfModules() {
		c.count(checkModuleRead(t, text))
	}
	c.enough(t, 1000, 1000)
}

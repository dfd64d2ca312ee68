package tests

import (
	"math/rand"
	"reflect"
	"regexp"
	"slices"
	"strconv"
	"strings"
	"testing"

	"loop.example/heirlooms/impl"
)

// goesOnWanted tells by the document's words whether a module goes on with another one, the first of both.
func goesOnWanted(old impl.Module, m impl.Module) bool {
	for k, record := range old.Records {
		if k >= len(m.Records) || !sameRecord(record, m.Records[k]) {
			return false
		}
	}
	for k, was := range old.Funcs {
		if k >= len(m.Funcs) {
			return false
		}
		is := m.Funcs[k]
		if (was.Seen == 1 || was.Seen == 2) && (is.Seen < was.Seen || !slices.Equal(was.Args, is.Args) || !slices.Equal(was.Rets, is.Rets)) {
			return false
		}
	}
	for _, friend := range old.Friends {
		if !slices.Contains(m.Friends, friend) {
			return false
		}
	}
	return true
}

// goodWanted tells by the document's words whether a shelf is good.
func goodWanted(shelf []impl.Module) bool {
	_, bad := faultWanted(shelf)
	return !bad
}

// addWanted tells by the document's words a shelf with a module added, and whether there is one.
func addWanted(shelf []impl.Module, m impl.Module) ([]impl.Module, bool) {
	then := append(slices.Clone(shelf), m)
	if !goodWanted(shelf) || !goodWanted(then) {
		return nil, false
	}
	return then, true
}

// replaceWanted tells by the document's words a shelf with a module replaced, and whether there is one.
func replaceWanted(shelf []impl.Module, at int, m impl.Module) ([]impl.Module, bool) {
	if at < 0 || at >= len(shelf) || !goesOnWanted(shelf[at], m) || !goodWanted(shelf) {
		return nil, false
	}
	then := slices.Clone(shelf)
	then[at] = m
	if !goodWanted(then) {
		return nil, false
	}
	return then, true
}

// usesWanted tells by the document's words which modules use a module, as the texts of modules show it.
func usesWanted(shelf []impl.Module, at int) []int {
	users := []int{}
	if at < 0 || at >= len(shelf) || !shapeWanted(shelf) {
		return users
	}
	n := strconv.Itoa(at)
	uses := regexp.MustCompile(`(?m)^call ` + n + ` | [&!]?S` + n + `[0-9]`)
	for m, module := range shelf {
		if m != at && uses.MatchString(moduleTextWanted(module)) {
			users = append(users, m)
		}
	}
	return users
}

// checkGoesOn holds ModuleGoesOn against what the document's words tell, and returns that.
func checkGoesOn(t *testing.T, old impl.Module, m impl.Module) bool {
	t.Helper()
	want := goesOnWanted(old, m)
	if impl.ModuleGoesOn(old, m) != want {
		t.Errorf("ModuleGoesOn of %v and %v does not tell %v", old, m, want)
	}
	return want
}

// checkAdd holds ShelfAdd against what the document's words tell, and returns whether there is such a shelf.
func checkAdd(t *testing.T, shelf []impl.Module, m impl.Module) bool {
	t.Helper()
	want, ok := addWanted(shelf, m)
	got, told := impl.ShelfAdd(shelf, m)
	if told != ok || !sameShelf(got, want) {
		t.Errorf("ShelfAdd of %v to %v told %v and %v, not %v", m, shelf, got, told, ok)
	}
	return ok
}

// checkReplace holds ShelfReplace against what the document's words tell, and returns whether there is such a shelf.
func checkReplace(t *testing.T, shelf []impl.Module, at int, m impl.Module) bool {
	t.Helper()
	want, ok := replaceWanted(shelf, at, m)
	got, told := impl.ShelfReplace(shelf, at, m)
	if told != ok || !sameShelf(got, want) {
		t.Errorf("ShelfReplace of the module %d of %v by %v told %v and %v, not %v", at, shelf, m, got, told, ok)
	}
	return ok
}

// checkUses holds ShelfUses against what the document's words tell, and returns that.
func checkUses(t *testing.T, shelf []impl.Module, at int) []int {
	t.Helper()
	want := usesWanted(shelf, at)
	if got := impl.ShelfUses(shelf, at); !slices.Equal(got, want) {
		t.Errorf("ShelfUses of the module %d of %v told %v, not %v", at, shelf, got, want)
	}
	return want
}

// shelfTold is a shelf as a text tells it: ` / ` parts modules, and `; ` lines.
func shelfTold(text string) []impl.Module {
	shelf := []impl.Module{}
	for part := range strings.SplitSeq(text, " / ") {
		if part != "" {
			part = strings.ReplaceAll(part, "; ", "\n") + "\n"
		}
		m, ok := impl.ModuleRead(part)
		if !ok {
			panic("no module: " + part)
		}
		shelf = append(shelf, m)
	}
	return shelf
}

// shelfReplaced is a good shelf: each module has a function of each sight, and the later ones use the earlier ones, as friends too.
func shelfReplaced() []impl.Module {
	return shelfTold("record 12 n; record 15 b o; friend 1; func 2 n : S00 : :; move 0; pack 0; ret; func 1 &S01 : b : :; move 0; field 0 1; read; ret; func 0 : n : o :; num 3; ret" +
		" / record 8 S00 S01; friend 2; func 2 S00 S01 : S10 : :; move 0; move 1; pack 0; ret; func 1 S01 : b : :; lend 0; call 0 1; ret; func 0 S10 : : : 0; move 0; me; keep 0; ret" +
		" / record 3; func 2 n S01 : S10 : :; move 0; call 0 0; move 1; call 1 0; ret; func 1 S01 : b : :; move 0; call 1 1; ret; func 0 : : :; ret")
}

func TestReplacedShelf(t *testing.T) {
	if !goodWanted(shelfReplaced()) || !impl.ShelfGood(shelfReplaced()) {
		t.Errorf("a function goes wrong: %v", fault(shelfReplaced()))
	}
}

// A change of a module: whether what comes of it goes on with the module, whether the module goes on with it, and whether it would be good in place of the first, the second or the third one of shelfReplaced.
type change struct {
	do       func(m *impl.Module)
	on, back bool
	good     string
}

// changesOfRecords are changes of the records of a module.
func changesOfRecords() map[string]change {
	return map[string]change{
		"a record more":                {func(m *impl.Module) { m.Records = append(m.Records, rec(15, "n")) }, true, false, "012"},
		"a record more, like the last": {func(m *impl.Module) { m.Records = append(m.Records, m.Records[len(m.Records)-1]) }, true, false, "012"},
		"a record more of the first":   {func(m *impl.Module) { m.Records = append(m.Records, rec(4, "S00")) }, true, false, "012"},
		"a record more ahead":          {func(m *impl.Module) { m.Records = slices.Insert(m.Records, 0, rec(15)) }, false, false, "2"},
		"records too many":             {func(m *impl.Module) { m.Records = append(m.Records, rec(15), rec(15), rec(15)) }, true, false, ""},
		"a record more that is none":   {func(m *impl.Module) { m.Records = append(m.Records, rec(16)) }, true, false, ""},
		"a record more of a later one": {func(m *impl.Module) { m.Records = append(m.Records, rec(0, "S20")) }, true, false, "2"},
		"a record more of no type":     {func(m *impl.Module) { m.Records = append(m.Records, rec(0, "&n")) }, true, false, ""},
		"a record less":                {func(m *impl.Module) { m.Records = m.Records[:len(m.Records)-1] }, false, true, "2"},
		"no records":                   {func(m *impl.Module) { m.Records = nil }, false, true, "2"},
		"an ability less":              {func(m *impl.Module) { m.Records[0].Able &= m.Records[0].Able - 1 }, false, false, "2"},
		"other abilities":              {func(m *impl.Module) { m.Records[0].Able ^= 4 }, false, false, "12"},
		"abilities that are none":      {func(m *impl.Module) { m.Records[0].Able |= 16 }, false, false, ""},
		"a field more":                 {func(m *impl.Module) { m.Records[0].Fields = append(m.Records[0].Fields, "n") }, false, false, "2"},
		"a field that is none":         {func(m *impl.Module) { m.Records[0].Fields = []string{"x"} }, false, false, ""},
		"another field":                {func(m *impl.Module) { m.Records[0].Fields = []string{"b"} }, false, false, "2"},
		"fields too many":              {func(m *impl.Module) { m.Records[0].Fields = []string{"n", "n", "n", "n"} }, false, false, ""},
	}
}

// changesOfFuncs are changes of the functions and the friends of a module; the first function is seen by all, the second one by friends, and the third one by none.
func changesOfFuncs() map[string]change {
	return map[string]change{
		"nothing":                        {func(m *impl.Module) {}, true, true, "012"},
		"a function more":                {func(m *impl.Module) { m.Funcs = append(m.Funcs, small()) }, true, false, "012"},
		"a function more, like the last": {func(m *impl.Module) { m.Funcs = append(m.Funcs, m.Funcs[2]) }, true, false, "012"},
		"a function more, seen by all":   {func(m *impl.Module) { m.Funcs = append(m.Funcs, impl.Func{Seen: 2, Code: small().Code}) }, true, false, "012"},
		"a function more ahead":          {func(m *impl.Module) { m.Funcs = slices.Insert(m.Funcs, 0, small()) }, false, false, "2"},
		"functions too many":             {func(m *impl.Module) { m.Funcs = append(m.Funcs, small(), small()) }, true, false, ""},
		"a function more that is bad":    {func(m *impl.Module) { m.Funcs = append(m.Funcs, impl.Func{Code: codeOfText("add; ret")}) }, true, false, ""},
		"a function more without code":   {func(m *impl.Module) { m.Funcs = append(m.Funcs, impl.Func{}) }, true, false, ""},
		"a function less":                {func(m *impl.Module) { m.Funcs = m.Funcs[:2] }, false, true, "012"},
		"no functions":                   {func(m *impl.Module) { m.Funcs = nil }, false, true, "2"},
		"functions turned":               {func(m *impl.Module) { slices.Reverse(m.Funcs) }, false, false, "2"},
		"seen by friends, not by all":    {func(m *impl.Module) { m.Funcs[0].Seen = 1 }, false, true, "12"},
		"seen by none, not by all":       {func(m *impl.Module) { m.Funcs[0].Seen = 0 }, false, true, "2"},
		"seen by none, not by friends":   {func(m *impl.Module) { m.Funcs[1].Seen = 0 }, false, true, "2"},
		"seen by all, not by friends":    {func(m *impl.Module) { m.Funcs[1].Seen = 2 }, true, false, "012"},
		"seen by friends, not by none":   {func(m *impl.Module) { m.Funcs[2].Seen = 1 }, true, false, "012"},
		"seen by all, not by none":       {func(m *impl.Module) { m.Funcs[2].Seen = 2 }, true, false, "012"},
		"other results":                  {func(m *impl.Module) { m.Funcs[0].Rets, m.Funcs[0].Code = []string{"n"}, codeOfText("num 1; fail") }, false, false, "2"},
		"other results of friends":       {func(m *impl.Module) { m.Funcs[1].Rets, m.Funcs[1].Code = []string{"n"}, codeOfText("num 1; fail") }, false, false, "2"},
		"other results of none":          {func(m *impl.Module) { m.Funcs[2].Rets, m.Funcs[2].Code = []string{"o"}, codeOfText("num 1; fail") }, true, true, "012"},
		"other arguments":                {func(m *impl.Module) { m.Funcs[0].Args, m.Funcs[0].Code = nil, codeOfText("num 1; fail") }, false, false, "2"},
		"other arguments of friends":     {func(m *impl.Module) { m.Funcs[1].Args, m.Funcs[1].Code = nil, codeOfText("num 1; fail") }, false, false, "2"},
		"other arguments of none":        {func(m *impl.Module) { m.Funcs[2].Args, m.Funcs[2].Code = []string{"b"}, codeOfText("num 1; fail") }, true, true, "012"},
		"an argument that is none":       {func(m *impl.Module) { m.Funcs[2].Args = []string{"S03"} }, true, true, ""},
		"another place":                  {func(m *impl.Module) { m.Funcs[0].Locals = []string{"&o"} }, true, true, "012"},
		"a place that is none":           {func(m *impl.Module) { m.Funcs[0].Locals = []string{"!S30"} }, true, true, ""},
		"a place of a later one":         {func(m *impl.Module) { m.Funcs[0].Locals = []string{"S20"} }, true, true, "2"},
		"another code":                   {func(m *impl.Module) { m.Funcs[0].Code = codeOfText("num 1; fail") }, true, true, "012"},
		"a code that is bad":             {func(m *impl.Module) { m.Funcs[0].Code = codeOfText("add; ret") }, true, true, ""},
		"a code that is bad, the last":   {func(m *impl.Module) { m.Funcs[2].Code = codeOfText("num 1") }, true, true, ""},
		"no code":                        {func(m *impl.Module) { m.Funcs[1].Code = nil }, true, true, ""},
		"a call of a later one":          {func(m *impl.Module) { m.Funcs[0].Code = codeOfText("num 1; fail; call 2 0") }, true, true, "2"},
		"another record that is taken":   {func(m *impl.Module) { m.Funcs[0].Takes = []int{0} }, true, true, "012"},
		"a taken one that is none":       {func(m *impl.Module) { m.Funcs[0].Takes = []int{3} }, true, true, ""},
		"a friend more":                  {func(m *impl.Module) { m.Friends = append(m.Friends, 2) }, true, false, "0"},
		"no friends":                     {func(m *impl.Module) { m.Friends = nil }, false, true, "2"},
		"another friend":                 {func(m *impl.Module) { m.Friends = []int{3} }, false, false, ""},
		"friends that fall":              {func(m *impl.Module) { m.Friends = append([]int{3}, m.Friends...) }, true, false, ""},
		"a friend twice":                 {func(m *impl.Module) { m.Friends = slices.Concat(m.Friends, m.Friends) }, true, true, "2"},
	}
}

// answersAt tells whether the modules go on with each other behind a change, which of friends is another one where there are none, or where the friend is there already.
func answersAt(at int, name string, c change) (bool, bool) {
	switch name + " " + strconv.Itoa(at) {
	case "no friends 2", "a friend twice 2", "a friend more 1":
		return true, true
	case "another friend 2":
		return true, false
	}
	return c.on, c.back
}

// TestReplaceChanges changes each module of a shelf, and replaces it by what comes of this.
func TestReplaceChanges(t *testing.T) {
	c := tally{}
	for _, changes := range []map[string]change{changesOfRecords(), changesOfFuncs()} {
		for name, is := range changes {
			for at := range 3 {
				shelf := shelfReplaced()
				m := cloneShelf(shelf)[at]
				is.do(&m)
				isOn, isBack := answersAt(at, name, is)
				if on, back := checkGoesOn(t, shelf[at], m), checkGoesOn(t, m, shelf[at]); on != isOn || back != isBack {
					t.Errorf("%s at %d: goes on %v, and back %v", name, at, on, back)
				}
				then := slices.Clone(shelf)
				then[at] = m
				good := strings.Contains(is.good, strconv.Itoa(at))
				if goodWanted(then) != good {
					t.Errorf("%s at %d: the shelf is good: %v", name, at, !good)
				}
				told := checkReplace(t, shelf, at, m)
				if c.count(told); told != (isOn && good) {
					t.Errorf("%s at %d: replaced %v", name, at, told)
				}
				if good {
					checkReplace(t, then, at, shelf[at])
				}
			}
		}
	}
	c.enough(t, 40, 80)
}

// TestGoesOnSights takes each function of a module with each sight, and each other sight, and changes one thing of it, or none.
func TestGoesOnSights(t *testing.T) {
	base := impl.Func{Args: []string{"n", "&b"}, Rets: []string{"o", "&b"}, Locals: []string{"S00"}, Takes: []int{0}, Code: codeOfText("num 1; fail")}
	for name, row := range map[string]struct {
		do     func(f *impl.Func)
		matter bool
	}{
		"nothing":             {func(f *impl.Func) {}, false},
		"an argument more":    {func(f *impl.Func) { f.Args = []string{"n", "&b", "n"} }, true},
		"an argument less":    {func(f *impl.Func) { f.Args = []string{"n"} }, true},
		"another argument":    {func(f *impl.Func) { f.Args = []string{"n", "!b"} }, true},
		"arguments turned":    {func(f *impl.Func) { f.Args = []string{"&b", "n"} }, true},
		"no arguments":        {func(f *impl.Func) { f.Args = nil }, true},
		"a place as argument": {func(f *impl.Func) { f.Args, f.Locals = append(f.Args[:2:2], f.Locals...), nil }, true},
		"a result more":       {func(f *impl.Func) { f.Rets = []string{"o", "&b", "o"} }, true},
		"a result less":       {func(f *impl.Func) { f.Rets = []string{"o"} }, true},
		"another result":      {func(f *impl.Func) { f.Rets = []string{"o", "b"} }, true},
		"results turned":      {func(f *impl.Func) { f.Rets = []string{"&b", "o"} }, true},
		"no results":          {func(f *impl.Func) { f.Rets = []string{} }, true},
		"turned to the other": {func(f *impl.Func) { f.Args, f.Rets = f.Rets, f.Args }, true},
		"another place":       {func(f *impl.Func) { f.Locals = []string{"n"} }, false},
		"no places":           {func(f *impl.Func) { f.Locals = nil }, false},
		"another taken":       {func(f *impl.Func) { f.Takes = []int{1} }, false},
		"none taken":          {func(f *impl.Func) { f.Takes = nil }, false},
		"another code":        {func(f *impl.Func) { f.Code = codeOfText("true; ret") }, false},
		"no code":             {func(f *impl.Func) { f.Code = nil }, false},
	} {
		for k := range 27 {
			at, was, is := k/9, k/3%3, k%3
			old := impl.Module{Funcs: []impl.Func{base, base, base}}
			old.Funcs[at].Seen = was
			m := cloneShelf([]impl.Module{old})[0]
			m.Funcs[at].Seen = is
			row.do(&m.Funcs[at])
			want := was == 0 || is >= was && !row.matter
			if checkGoesOn(t, old, m) != want || impl.ModuleGoesOn(old, m) != want {
				t.Errorf("%s of the function %d, with the sight %d then %d: goes on %v", name, at, was, is, !want)
			}
		}
	}
}

// TestGoesOnNone takes modules with types, kinds, sights and friends that are none: what is the same goes on, and what is another does not.
func TestGoesOnNone(t *testing.T) {
	odd := func() impl.Module {
		return impl.Module{
			Records: []impl.Record{rec(99, "x", ""), rec(-1), rec(0, "n", "n", "n", "n"), rec(15), rec(15)},
			Friends: []int{7, -1, 7, 0},
			Funcs:   []impl.Func{{Seen: 2, Args: []string{"x", "", "&&n", "S99", "n"}, Rets: []string{"", "y"}}, {Seen: 1, Args: []string{"&"}}, small(), small(), small()},
		}
	}
	for name, row := range map[string]struct {
		do       func(m *impl.Module)
		on, back bool
	}{
		"nothing":              {func(m *impl.Module) {}, true, true},
		"other abilities":      {func(m *impl.Module) { m.Records[0].Able = 98 }, false, false},
		"no abilities":         {func(m *impl.Module) { m.Records[1].Able = 1 }, false, false},
		"another type":         {func(m *impl.Module) { m.Records[0].Fields[1] = " " }, false, false},
		"one type of two":      {func(m *impl.Module) { m.Records[0].Fields = []string{"x "} }, false, false},
		"a record more":        {func(m *impl.Module) { m.Records = append(m.Records, rec(-7, "?")) }, true, false},
		"another argument":     {func(m *impl.Module) { m.Funcs[0].Args[0] = "X" }, false, false},
		"an empty one less":    {func(m *impl.Module) { m.Funcs[0].Rets = []string{"y"} }, false, false},
		"friends in order":     {func(m *impl.Module) { m.Friends = []int{-1, 0, 7} }, true, true},
		"a friend less":        {func(m *impl.Module) { m.Friends = []int{7, 0, 7} }, false, true},
		"a friend more":        {func(m *impl.Module) { m.Friends = append(m.Friends, 1<<40) }, true, false},
		"many functions more":  {func(m *impl.Module) { m.Funcs = append(m.Funcs, make([]impl.Func, 1000)...) }, true, false},
		"the greatest friends": {func(m *impl.Module) { m.Friends = []int{1 << 62, -1 << 63} }, false, false},
	} {
		m := odd()
		row.do(&m)
		if on, back := checkGoesOn(t, odd(), m), checkGoesOn(t, m, odd()); on != row.on || back != row.back {
			t.Errorf("%s: goes on %v, and back %v", name, on, back)
		}
	}
	if !impl.ModuleGoesOn(impl.Module{}, odd()) || impl.ModuleGoesOn(odd(), impl.Module{}) || !impl.ModuleGoesOn(impl.Module{}, impl.Module{Records: []impl.Record{}, Funcs: []impl.Func{}, Friends: []int{}}) {
		t.Errorf("an empty module and what goes on with it is told wrongly")
	}
}

// TestAddRows adds modules to shelves of which one thing or another is not so.
func TestAddRows(t *testing.T) {
	for _, row := range []struct {
		shelf, m string
		ok       bool
	}{
		{"func 2 : : :; ret", "", true},
		{"func 2 : : :; ret", "func 2 : : :; call 0 0; ret", true},
		{"func 2 : : :; ret", "func 2 : : :; call 1 0; call 1 1; ret; func 0 : : :; ret", true},
		{"func 2 : : :; ret", "func 2 : : :; call 2 0; ret", false},
		{"func 2 : : :; ret", "func 2 : : :; call 0 1; ret", false},
		{"func 1 : : :; ret", "func 2 : : :; call 0 0; ret", false},
		{"func 0 : : :; ret", "func 2 : : :; call 0 0; ret", false},
		{"func 2 : : :; ret", "func 2 : : :; add; ret", false},
		{"func 2 : : :; ret", "func 2 : : :; ret; func 2 : : :; ret; func 2 : : :; num 1", false},
		{"func 2 : : :; ret", "func 2 : : :", false},
		{"func 2 : : :; ret", "func 3 : : :; ret", false},
		{"func 2 : : :; ret", "friend 1; func 2 : : :; ret", false},
		{"func 2 : : :; ret", "friend 2; func 2 : : :; ret", false},
		{"func 2 : : :; ret", "friend 0", false},
		{"record 15 n", "record 15 S00; record 15 S10", true},
		{"record 15 n", "record 15 S00; record 15 S11", false},
		{"record 15 n", "record 15 S01", false},
		{"record 15 n", "record 15 S20", false},
		{"record 13 n", "record 15 S00", false},
		{"record 15 n", "record 16", false},
		{"record 12 n", "func 2 S00 : S00 : :; move 0; ret", true},
		{"record 12 n", "func 2 S00 : : :; ret", false},
		{"record 12 n", "func 2 n : S00 : :; move 0; pack 0; ret", false},
		{"record 12 n", "func 2 S00 : : :; move 0; me; keep 0; ret", false},
		{"record 12 n", "record 12 n; func 2 n : : :; move 0; pack 0; me; keep 0; ret", true},
		{"record 12 n", "record 12 n; func 2 : S10 : : 0; me; take 0; ret", true},
		{"record 12 n", "record 12 n; func 2 : S10 : :; me; take 0; ret", false},
		{"record 12 n", "func 2 : : S20 :; ret", false},
		{"func 2 : : :; add; ret", "func 2 : : :; ret", false},
		{"func 2 : : :; ret; func 0 : n : :; ret", "", false},
		{"func 2 : : :", "", false},
		{"record 15 S00", "", false},
		{"friend 1; func 1 : : :; ret", "func 2 : : :; call 0 0; ret", false},
		{"friend 1", "", false},
		{" / ", "", true},
		{"friend 1; func 1 : : :; ret / func 2 : : :; call 0 0; ret", "func 2 : : :; call 1 0; ret", true},
		{"friend 1; func 1 : : :; ret / func 2 : : :; call 0 0; ret", "func 2 : : :; call 0 0; ret", false},
		{"friend 1 2; func 1 : : :; ret / ", "func 2 : : :; call 0 0; ret", false},
		{"func 2 : : :; ret / func 2 : : :; not; ret", "func 2 : : :; ret", false},
		{"func 2 : : :; not; ret / func 2 : : :; ret", "func 2 : : :; ret", false},
		{" /  / ", "", false},
		{"func 2 : : :; ret / func 2 : : :; ret / func 2 : : :; ret", "func 2 : : :; ret", false},
	} {
		if got := checkAdd(t, shelfTold(row.shelf), shelfTold(row.m)[0]); got != row.ok {
			t.Errorf("that %q can be added to %q is told as %v", row.m, row.shelf, got)
		}
	}
}

// TestAddOneByOne builds shelves from one without modules on, up to ModulesMost.
func TestAddOneByOne(t *testing.T) {
	for k, whole := range [][]impl.Module{shelfDeals(), {{}, {}, {}}, runShelf(""), shelfTold("func 2 : : :; ret / func 2 : : :; call 0 0; ret / func 2 : : :; call 1 0; ret")} {
		for many := range whole {
			whole[many].Friends = nil
		}
		shelf, ok := []impl.Module(nil), goodWanted(whole)
		for _, m := range whole {
			checkAdd(t, shelf, m)
			shelf, _ = impl.ShelfAdd(shelf, m)
		}
		if !ok || !sameShelf(shelf, whole) || checkAdd(t, shelf, impl.Module{}) || checkAdd(t, append(shelf, impl.Module{}), impl.Module{}) {
			t.Errorf("the shelf %d was built as %v", k, shelf)
		}
	}
	for _, empty := range [][]impl.Module{nil, {}, make([]impl.Module, 0, 4)} {
		if got, ok := impl.ShelfAdd(empty, impl.Module{}); !ok || len(got) != 1 || !sameModule(got[0], impl.Module{}) {
			t.Errorf("a module without anything was added as %v %v", got, ok)
		}
	}
	if _, ok := impl.ShelfAdd(make([]impl.Module, 100000), impl.Module{}); ok {
		t.Errorf("a module was added to far too many")
	}
}

// TestReplaceSame replaces each module of good shelves by itself, and those of others, which cannot be.
func TestReplaceSame(t *testing.T) {
	for k, shelf := range append([][]impl.Module{shelfReplaced(), shelfVerified(), shelfDeals(), runShelf(""), {{}, {}, {}}, {{}}}, shelvesWithCode(121, 60, 5000)...) {
		for at := range shelf {
			got, ok := impl.ShelfReplace(shelf, at, shelf[at])
			if good := goodWanted(shelf); ok != good || good && !sameShelf(got, shelf) || k < 6 && !good {
				t.Errorf("the module %d of the shelf %d, replaced by itself, gave %v %v", at, k, got, ok)
			}
		}
	}
}

// TestReplaceIndexes takes indexes that are none, and those that are.
func TestReplaceIndexes(t *testing.T) {
	c := tally{}
	for _, shelf := range [][]impl.Module{nil, {}, {{}}, {{}, {}}, {{}, {}, {}}, {{}, {}, {}, {}}} {
		for _, at := range append(numbersSome(), len(shelf)-1, len(shelf), len(shelf)+1) {
			got, ok := impl.ShelfReplace(shelf, at, impl.Module{Records: []impl.Record{rec(3)}})
			want := at >= 0 && at < len(shelf) && len(shelf) < 4
			if c.count(want); ok != want || len(got) > 0 != want {
				t.Errorf("the module %d of %d was replaced: %v %v", at, len(shelf), got, ok)
			}
			if uses := impl.ShelfUses(shelf, at); len(uses) != 0 {
				t.Errorf("ShelfUses of %d of %d modules told %v", at, len(shelf), uses)
			}
		}
	}
	c.enough(t, 6, 300)
}

// TestReplaceMends takes shelves that are not good, and would be with another module: it cannot be replaced.
func TestReplaceMends(t *testing.T) {
	for _, row := range []struct {
		shelf, m string
		at       int
	}{
		{"func 2 : : :; add; ret", "func 2 : : :; ret", 0},
		{"func 2 : : :; ret", "func 2 : : :; ret", 1},
		{"func 2 : : :; ret / func 2 : : :; add; ret / func 2 : : :; ret", "func 2 : : :; ret", 1},
		{"func 2 : : :; ret / func 2 : : :; ret / func 2 : : :; add; ret", "func 2 : : :; ret", 2},
		{"func 2 : : :", "func 2 : : :; ret", 0},
		{"func 1 : : :; ret / func 2 : : :; call 0 0; ret", "func 2 : : :; ret", 0},
		{"func 1 : : :; ret / func 2 : : :; call 0 0; ret", "friend 1; func 1 : : :; ret", 0},
		{"func 2 : : :; ret / func 2 : : :; call 0 1; ret", "func 2 : : :; ret; func 2 : : :; ret", 0},
		{"record 15 / func 2 S01 : : :; ret", "record 15; record 15", 0},
		{"record 15 / friend 1", "", 1},
		{"func 4 : : :; ret", "func 2 : : :; ret", 0},
	} {
		shelf, m := shelfTold(row.shelf), shelfTold(row.m)[0]
		if checkReplace(t, shelf, row.at, m) {
			t.Errorf("the module %d of %q was replaced by %q", row.at, row.shelf, row.m)
		}
		if row.at < len(shelf) && !goodWanted(slices.Replace(shelf, row.at, row.at+1, m)) {
			t.Errorf("%q is not good with %q at %d", row.shelf, row.m, row.at)
		}
	}
}

// TestReplaceLater takes modules with which they would be good, and a later one not any more, and such with which others are good as they were.
func TestReplaceLater(t *testing.T) {
	for _, row := range []struct {
		shelf, m string
		ok       bool
	}{
		{"func 2 n : n : :; move 0; ret / func 2 : n : :; num 1; call 0 0; ret", "func 2 n : n : :; num 7; ret", true},
		{"func 2 n : n : :; move 0; ret / func 2 : n : :; num 1; call 0 0; ret", "func 1 n : n : :; move 0; ret", false},
		{"func 2 n : n : :; move 0; ret / func 2 : n : :; num 1; call 0 0; ret", "func 2 b : n : :; num 7; ret", false},
		{"func 2 n : n : :; move 0; ret / func 2 : n : :; num 1; call 0 0; ret", "func 2 n : b : :; true; ret", false},
		{"func 2 n : n : :; move 0; ret /  / func 2 : n : :; num 1; call 0 0; ret", "", false},
		{"func 2 n : n : :; move 0; ret /  / func 2 : n : :; num 1; call 0 0; ret", "func 2 n : n : o :; move 0; ret; func 0 : : :; ret", true},
		{"friend 1; func 1 : : :; ret / func 2 : : :; call 0 0; ret", "func 1 : : :; ret", false},
		{"friend 1; func 1 : : :; ret / func 2 : : :; call 0 0; ret", "func 2 : : :; ret", false},
		{"friend 1; func 1 : : :; ret / func 2 : : :; call 0 0; ret", "friend 1; func 2 : : :; num 3; fail", true},
		{"friend 1; func 1 : : :; ret / func 2 : : :; call 0 0; ret / ", "friend 1 2; func 1 : : :; ret", true},
		{"friend 1; func 1 : : :; ret / func 2 : : :; call 0 0; ret / ", "friend 2; func 1 : : :; ret", false},
		{"record 15 n / func 2 S00 : S00 : :; copy 0; ret", "record 15 n; record 2 S00", true},
		{"record 15 n / func 2 S00 : S00 : :; copy 0; ret", "record 13 n", false},
		{"record 15 n / func 2 S00 : S00 : :; copy 0; ret", "record 14 n", false},
		{"record 15 n / record 12 S00", "record 11 n", false},
		{"record 15 n; record 15 / func 2 : : S01 :; ret", "record 15 n", false},
		{"record 15 n; record 15 / func 2 : : &S01 :; ret", "record 15 n; record 15 n", false},
		{"func 0 : : :; ret; func 2 : : :; call 0 0; ret / func 2 : : :; call 0 1; ret", "func 0 n : n : :; move 0; ret; func 2 : : :; ret", true},
		{"func 0 : : :; ret; func 2 : : :; call 0 0; ret / func 2 : : :; call 0 1; ret", "func 0 n : n : :; move 0; ret; func 2 : : :; call 0 0; ret", false},
		{"record 15 n; func 0 : : : 0; ret; func 2 : : : 0; call 0 0; ret", "record 15 n; func 0 : : : 0; ret; func 2 : : :; call 0 0; ret", false},
		{"record 15 n; func 2 : : :; ret / func 2 : : :; call 0 0; ret", "record 15 n; func 2 : : : 0; me; seew 0; drop; ret", true},
	} {
		if got := checkReplace(t, shelfTold(row.shelf), 0, shelfTold(row.m)[0]); got != row.ok {
			t.Errorf("that the first module of %q can be replaced by %q is told as %v", row.shelf, row.m, got)
		}
	}
}

// TestUsesRows takes modules that use others by one thing alone, and such that do not.
func TestUsesRows(t *testing.T) {
	for _, row := range []struct {
		shelf string
		uses  [3]string
	}{
		{"func 2 : : :; ret / func 2 : : :; call 0 0; ret / func 2 : : :; ret", [3]string{"1", "", ""}},
		{"func 2 : : :; ret / func 2 : : :; ret / func 2 : : :; call 0 0; ret", [3]string{"2", "", ""}},
		{"func 2 : : :; ret / func 2 : : :; ret / func 2 : : :; call 1 0; ret", [3]string{"", "2", ""}},
		{"func 2 : : :; ret / func 2 : : :; call 0 0; ret / func 2 : : :; call 1 0; ret", [3]string{"1", "2", ""}},
		{"func 2 : : :; ret / func 2 : : :; call 0 0; ret / func 2 : : :; call 1 0; call 0 0; ret", [3]string{"1 2", "2", ""}},
		{"func 2 : : :; ret / func 2 : : :; ret; func 0 : : :; ret; func 0 : : :; ret; func 0 : : :; call 0 0; ret / ", [3]string{"1", "", ""}},
		{"func 2 : : :; ret / func 2 : : :; ret; call 0 0 / ", [3]string{"1", "", ""}},
		{"record 15 n / record 15 S00 / ", [3]string{"1", "", ""}},
		{"record 15 n / record 15; record 15 n n S00 / record 15 S10", [3]string{"1", "2", ""}},
		{"record 15 n / record 15 / record 15 S10; record 15 S00", [3]string{"2", "2", ""}},
		{"record 15 n / record 15 S00 / record 15 S10", [3]string{"1", "2", ""}},
		{"record 15 n / func 2 S00 : : :; ret / ", [3]string{"1", "", ""}},
		{"record 15 n / func 2 &S00 : : :; ret / func 2 n !S00 : : :; ret", [3]string{"1 2", "", ""}},
		{"record 15 n / func 2 : S00 : :; num 1; fail / func 2 : &S00 : :; num 1; fail", [3]string{"1 2", "", ""}},
		{"record 15 n / func 2 : n !S00 : :; num 1; fail / ", [3]string{"1", "", ""}},
		{"record 15 n / func 2 : : S00 :; ret / func 2 : : o &S00 :; ret", [3]string{"1 2", "", ""}},
		{"record 15 n / func 2 : : !S00 :; ret / record 15; func 2 : : S20 :; ret; func 2 : : S20 :; ret", [3]string{"1", "", ""}},
		{"record 15 n; record 15; record 15 / record 15; record 15 / func 2 &S02 : : :; ret; func 2 : : !S11 :; ret", [3]string{"2", "2", ""}},
		{"record 15 n; record 15; record 15 / record 15; record 15 S10; func 2 !S10 : : &S11 :; ret / record 15; record 15 S20", [3]string{"", "", ""}},
		{"record 15 n; record 15 S00; func 2 S00 : &S01 : !S00 :; call 0 0; num 1; fail /  / ", [3]string{"", "", ""}},
		{" / record 15 n; record 15 S10; func 2 S10 : &S11 : !S10 :; num 1; fail; call 1 0 / ", [3]string{"", "", ""}},
		{" /  / record 15 n; record 15 S20; func 2 S20 : &S21 : !S20 :; num 1; fail; call 2 0", [3]string{"", "", ""}},
		{"record 15; friend 1 2 / record 15; friend 2 / record 15", [3]string{"", "", ""}},
		{"record 15 n / record 15 n; func 2 o n : : : 0; copy 1; pack 0; copy 0; keep 0; copy 0; seew 0; drop; num 0; drop; jump 13; num 1; ret / ", [3]string{"", "", ""}},
		{"func 2 : : :; ret; func 2 : : :; ret; func 2 : : :; ret / func 2 : : :; call 0 1; ret / func 2 : : :; call 0 2; ret", [3]string{"1 2", "", ""}},
		{" / func 2 : : :; ret; func 2 : : :; ret; func 2 : : :; ret / func 2 : : :; call 1 2; call 1 0; ret", [3]string{"", "2", ""}},
		{"func 0 : : :; ret / func 2 : : :; call 0 0; ret / ", [3]string{"1", "", ""}},
		{"func 1 : : :; ret / func 2 : : :; add; call 0 0 / func 2 : : :; drop", [3]string{"1", "", ""}},
		{"func 2 : : :; add / record 15; func 2 : : :; not / func 2 S10 : n : :; ret", [3]string{"", "2", ""}},
	} {
		shelf := shelfTold(row.shelf)
		for at, want := range row.uses {
			if got := strings.Join(itoas(impl.ShelfUses(shelf, at)), " "); got != want {
				t.Errorf("the modules that use %d of %q are told as %q, not %q", at, row.shelf, got, want)
			}
			checkUses(t, shelf, at)
		}
	}
}

// TestUsesNoShape takes shelves that have not their shape, and those that are not good, and indexes that are none.
func TestUsesNoShape(t *testing.T) {
	if first, second := checkUses(t, shelfVerified(), 0), checkUses(t, shelfVerified(), 1); !slices.Equal(first, []int{1, 2}) || !slices.Equal(second, []int{2}) {
		t.Fatalf("a good shelf is used as %v and %v", first, second)
	}
	for name, shelf := range shelvesNoShape() {
		for at := -1; at < 5; at++ {
			if uses := impl.ShelfUses(shelf, at); len(uses) != 0 || shapeWanted(shelf) {
				t.Errorf("%s: ShelfUses of %d told %v", name, at, uses)
			}
		}
		checkAdd(t, shelf[:2], impl.Module{})
		for at := range shelf {
			if _, ok := impl.ShelfReplace(shelf, at, shelf[at]); ok {
				t.Errorf("%s: the module %d was replaced", name, at)
			}
		}
	}
	for _, at := range numbersSome() {
		if got := checkUses(t, shelfVerified(), at); len(got) > 0 && at != 0 && at != 1 {
			t.Errorf("ShelfUses of %d told %v", at, got)
		}
	}
}

// A spoiler changes one thing of a module.
type spoiler func(r *rand.Rand, m *impl.Module)

// spoilersOfModule are changes by chance, after some of which a module goes on with what it was, or is good.
func spoilersOfModule() []spoiler {
	types := []string{"n", "b", "o", "&n", "!b", "S00", "S01", "&S00", "S10", "!S11", "S20", "S30", "x"}
	of := func(do func(r *rand.Rand, f *impl.Func)) spoiler {
		return func(r *rand.Rand, m *impl.Module) {
			if len(m.Funcs) > 0 {
				do(r, &m.Funcs[r.Intn(len(m.Funcs))])
			}
		}
	}
	return []spoiler{
		func(r *rand.Rand, m *impl.Module) {
			m.Records = append(m.Records, rec(r.Intn(17), someOf(r, 2, types)...))
		},
		func(r *rand.Rand, m *impl.Module) { m.Records = append(m.Records, rec(pick(r, []int{0, 3, 15}))) },
		func(r *rand.Rand, m *impl.Module) { m.Records = m.Records[:max(0, len(m.Records)-1)] },
		func(r *rand.Rand, m *impl.Module) {
			if len(m.Records) > 0 {
				m.Records[r.Intn(len(m.Records))] = rec(r.Intn(16), someOf(r, 2, types)...)
			}
		},
		func(r *rand.Rand, m *impl.Module) { m.Funcs = append(m.Funcs, small()) },
		func(r *rand.Rand, m *impl.Module) { m.Funcs = m.Funcs[:max(0, len(m.Funcs)-1)] },
		func(r *rand.Rand, m *impl.Module) { m.Friends = someAscending(r, r.Intn(3), 3) },
		func(r *rand.Rand, m *impl.Module) { m.Friends = m.Friends[:len(m.Friends)/2] },
		of(func(r *rand.Rand, f *impl.Func) { f.Seen = r.Intn(5) - 1 }),
		of(func(r *rand.Rand, f *impl.Func) { f.Seen = 2 }),
		of(func(r *rand.Rand, f *impl.Func) { f.Args = someOf(r, 3, types) }),
		of(func(r *rand.Rand, f *impl.Func) { f.Rets = someOf(r, 3, types) }),
		of(func(r *rand.Rand, f *impl.Func) { f.Locals = append(f.Locals, someOf(r, 1, types[:6])...) }),
		of(func(r *rand.Rand, f *impl.Func) { f.Takes = someAscending(r, 0, 2) }),
		of(func(r *rand.Rand, f *impl.Func) { f.Code = codeOfText("num 7; fail") }),
		of(func(r *rand.Rand, f *impl.Func) { f.Code = codeOfText("jump 0") }),
		of(func(r *rand.Rand, f *impl.Func) { f.Code[r.Intn(len(f.Code))] = ins("call", r.Intn(3), r.Intn(4)) }),
		of(func(r *rand.Rand, f *impl.Func) { f.Code = f.Code[:1+r.Intn(len(f.Code))] }),
	}
}

// addedModule is what comes of a module by changes by chance (nextModule), mostly without friends, as the last one of a good shelf is.
func addedModule(r *rand.Rand, m impl.Module) impl.Module {
	next := nextModule(r, m)
	if r.Intn(8) > 0 {
		next.Friends = nil
	}
	return next
}

// nextModule is what comes of a module by changes by chance, none of them written into it.
func nextModule(r *rand.Rand, m impl.Module) impl.Module {
	next := cloneShelf([]impl.Module{m})[0]
	for range r.Intn(4) {
		if slices.ContainsFunc(next.Funcs, func(f impl.Func) bool { return len(f.Code) == 0 }) {
			return next
		}
		pick(r, spoilersOfModule())(r, &next)
	}
	return next
}

// shelvesReplaced are shelves of all sorts, most of them good.
func shelvesReplaced(seed int64) [][]impl.Module {
	r := rand.New(rand.NewSource(seed))
	shelves := slices.Concat(shelvesPromised(seed), [][]impl.Module{shelfDeals(), runShelf("")})
	for k := range 160 {
		shelf := shelfReplaced()
		if k%2 == 0 {
			shelf = someRunShelf(r, sortGood)
		}
		for at := range shelf {
			if next, ok := replaceWanted(shelf, at, nextModule(r, shelf[at])); ok {
				shelf = next
			}
		}
		shelves = append(shelves, firstWantedBelow(shelf, len(shelf)-r.Intn(4)/3))
	}
	return shelves
}

// TestReplaceMany takes shelves and modules by chance.
func TestReplaceMany(t *testing.T) {
	r := rand.New(rand.NewSource(122))
	on, replaced, added, used := tally{}, tally{}, tally{}, tally{}
	for _, shelf := range shelvesReplaced(123) {
		for at := range shelf {
			m := nextModule(r, shelf[at])
			on.count(checkGoesOn(t, shelf[at], m))
			checkGoesOn(t, m, shelf[at])
			replaced.count(checkReplace(t, shelf, at, m))
			checkReplace(t, shelf, r.Intn(4)-1, m)
			used.count(len(checkUses(t, shelf, at)) > 0)
			added.count(checkAdd(t, firstWantedBelow(shelf, at), addedModule(r, shelf[at])))
			checkAdd(t, shelf[:at], shelf[at])
		}
	}
	on.enough(t, 400, 200)
	replaced.enough(t, 200, 300)
	added.enough(t, 200, 300)
	used.enough(t, 200, 300)
}

// A span is the memory of a list, with the room behind it.
type span struct{ from, to uintptr }

// spansOf are the spans of all lists in a value, at any depth.
func spansOf(v reflect.Value) []span {
	spans := []span{}
	switch v.Kind() {
	case reflect.Slice:
		if size := uintptr(v.Cap()) * v.Type().Elem().Size(); size > 0 {
			spans = append(spans, span{v.Pointer(), v.Pointer() + size})
		}
		for k := range v.Len() {
			spans = append(spans, spansOf(v.Index(k))...)
		}
	case reflect.Struct:
		for k := range v.NumField() {
			spans = append(spans, spansOf(v.Field(k))...)
		}
	}
	return spans
}

// isApart reports whether no span of some is within others, nor within another one of them.
func isApart(some []span, others []span) bool {
	for k, a := range some {
		for _, b := range slices.Concat(some[:k], others) {
			if a.from < b.to && b.from < a.to {
				return false
			}
		}
	}
	return true
}

// checkOwnMemory holds that a shelf shares no memory with what it was made of, nor within itself.
func checkOwnMemory(t *testing.T, name string, told []impl.Module, shelf []impl.Module, m impl.Module) {
	t.Helper()
	given := append(spansOf(reflect.ValueOf(shelf)), spansOf(reflect.ValueOf(m))...)
	if !isApart(spansOf(reflect.ValueOf(told)), given) {
		t.Errorf("%s of %v with %v shares memory", name, shelf, m)
	}
}

// TestReplaceApart holds that shelves that are told have memory of their own, also where arguments share theirs.
func TestReplaceApart(t *testing.T) {
	told := tally{}
	check := func(shelf []impl.Module, at int, m impl.Module) {
		got, ok := impl.ShelfReplace(shelf, at, m)
		again, _ := impl.ShelfReplace(shelf, at, m)
		checkOwnMemory(t, "ShelfReplace", got, append(shelf, again...), m)
		added, isAdded := impl.ShelfAdd(shelf[:at], m)
		checkOwnMemory(t, "ShelfAdd", added, append(shelf, got...), m)
		told.count(ok || isAdded)
		uses, others := impl.ShelfUses(shelf, at), impl.ShelfUses(shelf, at)
		if !isApart(spansOf(reflect.ValueOf(uses)), spansOf(reflect.ValueOf(others))) {
			t.Errorf("ShelfUses of %v twice shares memory", shelf)
		}
	}
	for _, shelf := range append(shelvesWithCode(124, 60, 5000), shelfReplaced(), shelfVerified(), shelfDeals()) {
		for at := range shelf {
			check(shelf, at, shelf[at])
			check(cloneShelf(shelf), at, cloneShelf(shelf)[at])
		}
	}
	types, code := make([]string, 2, 6), make([]impl.Ins, 2, 40)
	types[0], types[1] = "n", "n"
	copy(code, codeOfText("num 7; fail"))
	f := impl.Func{Seen: 2, Args: types, Rets: types, Locals: types, Code: code}
	records := []impl.Record{rec(15, types...), {Able: 15, Fields: types}, {Able: 15, Fields: types[:1]}}
	m := impl.Module{Records: records, Funcs: []impl.Func{f, f, f}}
	for at := range 3 {
		check([]impl.Module{m, m, m}, at, m)
	}
	told.enough(t, 100, 10)
}

// TestReplaceKeepsArguments holds that nothing is written into arguments, nor into the room behind them.
func TestReplaceKeepsArguments(t *testing.T) {
	r := rand.New(rand.NewSource(125))
	for _, is := range append(shelvesWithCode(126, 100, 5000), shelfReplaced(), shelfVerified(), nil, []impl.Module{}, append(shelfReplaced(), impl.Module{})) {
		for at := -1; at <= len(is); at++ {
			shelf, other := cloneShelf(is), impl.Module{}
			if at >= 0 && at < len(is) {
				other = nextModule(r, is[at])
			}
			m := cloneShelf([]impl.Module{other})
			impl.ShelfAdd(shelf, m[0])
			impl.ShelfAdd(shelf[:max(0, min(at, len(is)))], m[0])
			impl.ShelfReplace(shelf, at, m[0])
			impl.ShelfUses(shelf, at)
			for k := range shelf {
				impl.ModuleGoesOn(shelf[k], m[0])
				impl.ModuleGoesOn(m[0], shelf[k])
				impl.ShelfReplace(shelf, k, shelf[k])
			}
			if !sameShelf(shelf, is) || !isRoomy(shelf) || !sameModule(m[0], other) || !isRoomy(m) {
				t.Fatalf("%v and %v were changed to %v and %v", is, other, shelf, m[0])
			}
			for _, behind := range shelf[len(shelf):cap(shelf)] {
				if !sameModule(behind, impl.Module{}) {
					t.Fatalf("behind %v there is %v now", is, behind)
				}
			}
		}
	}
}

func TestPromise58(t *testing.T) {
	r := rand.New(rand.NewSource(581))
	both, same := tally{}, tally{}
	for _, shelf := range append(shelvesReplaced(582), slices.Repeat([][]impl.Module{shelfReplaced()}, 100)...) {
		for _, m := range shelf {
			if !impl.ModuleGoesOn(m, m) || !impl.ModuleGoesOn(m, cloneShelf([]impl.Module{m})[0]) {
				t.Errorf("%v does not go on with itself", m)
			}
			for range 3 {
				next := nextModule(r, m)
				isBoth := impl.ModuleGoesOn(m, next) && impl.ModuleGoesOn(next, m)
				isSame := slices.EqualFunc(m.Records, next.Records, sameRecord)
				both.count(isBoth)
				if same.count(isSame); isBoth && !isSame {
					t.Errorf("%v and %v go on with each other", m, next)
				}
			}
		}
	}
	both.enough(t, 500, 500)
	same.enough(t, 500, 300)
}

func TestPromise59(t *testing.T) {
	r := rand.New(rand.NewSource(591))
	c := tally{}
	for _, shelf := range shelvesReplaced(592) {
		for at := range shelf {
			m := addedModule(r, shelf[at])
			first := firstWantedBelow(shelf, at)
			got, ok := impl.ShelfAdd(first, m)
			c.count(ok)
			if ok && (!impl.ShelfGood(got) || !sameShelf(got, append(slices.Clone(first), m))) {
				t.Errorf("ShelfAdd of %v to %v told %v", m, first, got)
			}
			if !ok && len(got) != 0 {
				t.Errorf("ShelfAdd of %v to %v told false and %v", m, first, got)
			}
			if ok != (impl.ShelfGood(first) && impl.ShelfGood(append(slices.Clone(first), m))) {
				t.Errorf("ShelfAdd of %v to %v told %v", m, first, ok)
			}
		}
	}
	c.enough(t, 200, 200)
}

// staysUsable holds what vaults and other modules need of a shelf in which a module was replaced.
func staysUsable(t *testing.T, shelf []impl.Module, at int, then []impl.Module) {
	t.Helper()
	for _, text := range kindTexts() {
		if able := impl.TypeAble(impl.ShelfKinds(shelf), text); able != -1 && impl.TypeAble(impl.ShelfKinds(then), text) != able {
			t.Errorf("%s has other abilities: %v, then %v", text, shelf, then)
		}
	}
	for from := range shelf {
		for m := range shelf {
			for f := range 4 {
				if (from != m || m != at) && impl.FuncSeen(shelf, from, m, f) && !impl.FuncSeen(then, from, m, f) {
					t.Errorf("the module %d sees the function %d of %d no more: %v, then %v", from, f, m, shelf, then)
				}
			}
		}
	}
}

func TestPromise60(t *testing.T) {
	r := rand.New(rand.NewSource(601))
	c, full := tally{}, tally{}
	for k, shelf := range append(shelvesReplaced(602), slices.Repeat([][]impl.Module{shelfReplaced()}, 100)...) {
		vaults := someVaults(r, shelfReplaced())
		if k%2 == 0 && impl.ShelfShape(shelf) {
			vaults = someVaults(r, shelf)
		}
		for at := range shelf {
			m := nextModule(r, shelf[at])
			then, ok := impl.ShelfReplace(shelf, at, m)
			if c.count(ok); !ok {
				continue
			}
			if !impl.ShelfGood(then) || !impl.ModuleGoesOn(shelf[at], m) || !sameShelf(then, slices.Concat(shelf[:at], []impl.Module{m}, shelf[at+1:])) {
				t.Errorf("the module %d of %v was replaced by %v: %v", at, shelf, m, then)
			}
			staysUsable(t, shelf, at, then)
			isOk := impl.VaultsOk(impl.ShelfKinds(shelf), vaults)
			full.count(isOk && len(vaults) > 0)
			if isOk && !impl.VaultsOk(impl.ShelfKinds(then), vaults) {
				t.Errorf("%v are no vaults any more behind %v", vaults, m)
			}
		}
	}
	c.enough(t, 300, 300)
	full.enough(t, 100, 100)
}

func TestPromise61(t *testing.T) {
	c, used := tally{}, tally{}
	for _, shelf := range shelvesReplaced(611) {
		good := impl.ShelfGood(shelf)
		c.count(good)
		for at := -1; at <= len(shelf); at++ {
			uses := impl.ShelfUses(shelf, at)
			if good {
				used.count(len(uses) > 0)
			}
			for k, m := range uses {
				if good && (m <= at || m >= len(shelf) || k > 0 && m <= uses[k-1]) {
					t.Errorf("the module %d of %v is used by %v", at, shelf, uses)
				}
			}
		}
	}
	c.enough(t, 300, 80)
	used.enough(t, 100, 200)
}

package tests

import (
	"maps"
	"math"
	"math/rand"
	"reflect"
	"slices"
	"strconv"
	"strings"
	"testing"

	"loop.example/heirlooms/impl"
)

// An asked is a run that is asked for.
type asked struct {
	shelf  []impl.Module
	vaults []impl.Kept
	owner  int
	m, f   int
	args   []impl.Value
	fuel   int
}

func (a asked) ok() bool {
	return impl.CallOk(a.shelf, a.vaults, a.owner, a.m, a.f, a.args, a.fuel)
}

func (a asked) run() impl.Outcome {
	return impl.CallRun(a.shelf, a.vaults, a.owner, a.m, a.f, a.args, a.fuel)
}

func (a asked) steps() int {
	return impl.CallSteps(a.shelf, a.vaults, a.owner, a.m, a.f, a.args, a.fuel)
}

func (a asked) words() []string {
	return impl.CallWords(a.shelf, a.vaults, a.owner, a.m, a.f, a.args, a.fuel)
}

func (a asked) apart() bool {
	return impl.CallApart(a.shelf, a.vaults, a.owner, a.m, a.f, a.args, a.fuel)
}

// kinds are those of the shelf.
func (a asked) kinds() [][]impl.Record { return stand{shelf: a.shelf}.kinds() }

// okWanted tells by the document's words whether a run can begin.
func (a asked) okWanted() bool {
	if !shapeWanted(a.shelf) || a.m < 0 || a.m >= len(a.shelf) || a.f < 0 || a.f >= len(a.shelf[a.m].Funcs) {
		return false
	}
	f := a.shelf[a.m].Funcs[a.f]
	if f.Seen != 2 || slices.ContainsFunc(slices.Concat(f.Args, f.Rets), isRef) || len(a.args) != len(f.Args) {
		return false
	}
	for k, arg := range a.args {
		if arg.Type != f.Args[k] || !okWanted(a.kinds(), arg) {
			return false
		}
	}
	return okKeptWanted(a.kinds(), a.vaults) && a.owner >= 0 && a.owner <= 3 && a.fuel >= 0 && a.fuel <= 300
}

// A ran is what is told of a run.
type ran struct {
	out     impl.Outcome
	words   []string
	apart   bool
	made    map[string]int // by the word and the kind, with a blank between
	modules []int
	deep    int
	touched []string // spots, each as the owner and the kind
	changed []string
}

// A level is a function within others: where it is, its stack and its places, and its next instruction.
type level struct {
	stand
	stack, places []impl.Value
	next          int
}

// A running is a run as it goes on, by the document's words.
type running struct {
	shelf       []impl.Module         // Takes does not matter, so all records are among it
	kept        map[string]impl.Value // by the owner and the kind, with a blank between
	owner, fuel int
	levels      []*level
	n           int
	rets        []impl.Value
	made        map[string]int
	asks        map[string]bool // by the spot, whether more than `has` and `see` asks for it
}

// goesOn is the code of an instruction that does not end a run.
const goesOn = -1

// wanted tells by the document's words what is told of a run.
func (a asked) wanted() ran {
	if !a.okWanted() {
		return ran{out: impl.Outcome{Code: impl.EndNone}, apart: true}
	}
	r := &running{shelf: cloneShelf(a.shelf), kept: map[string]impl.Value{}, owner: a.owner, fuel: a.fuel, made: map[string]int{}, asks: map[string]bool{}}
	for m, module := range r.shelf {
		for f := range module.Funcs {
			module.Funcs[f].Takes = []int{0, 1, 2}[:len(r.shelf[m].Records)]
		}
	}
	for _, kept := range a.vaults {
		r.kept[strconv.Itoa(kept.Owner)+" "+kept.Of.Type] = kept.Of
	}
	r.enter(a.m, a.f, a.args)
	told := ran{apart: true, made: r.made, deep: 1}
	for code := goesOn; ; {
		i, ok := r.top().ahead()
		switch {
		case !ok:
			code = impl.EndWrong
		case r.fuel == 0:
			code = impl.EndFuel
		default:
			r.fuel--
			told.words = append(told.words, i.Op)
			told.modules = append(told.modules, r.top().m)
			code = r.step(i)
		}
		if code != goesOn {
			told.out = r.outcome(a.vaults, code)
			slices.Sort(told.modules)
			told.modules = slices.Compact(told.modules)
			told.touched, told.changed = r.spots(code)
			return told
		}
		told.apart = told.apart && r.apart()
		told.deep = max(told.deep, len(r.levels))
	}
}

func (r *running) outcome(vaults []impl.Kept, code int) impl.Outcome {
	out := impl.Outcome{Code: code, N: r.n, Rets: r.rets, Vaults: vaults, Fuel: r.fuel}
	if code != impl.EndDone {
		return out
	}
	out.Vaults = nil
	for _, spot := range slices.Sorted(maps.Keys(r.kept)) {
		out.Vaults = append(out.Vaults, impl.Kept{Owner: int(spot[0] - '0'), Of: r.kept[spot]})
	}
	return out
}

// spots are those that a run touches and changes that ends with a code.
func (r *running) spots(code int) ([]string, []string) {
	touched := slices.Sorted(maps.Keys(r.asks))
	changed := slices.DeleteFunc(slices.Clone(touched), func(spot string) bool { return code != impl.EndDone || !r.asks[spot] })
	return touched, changed
}

func (r *running) top() *level { return r.levels[len(r.levels)-1] }

func (r *running) enter(m int, f int, args []impl.Value) {
	at := &level{stand: stand{shelf: r.shelf, m: m, f: f}, places: slices.Clone(args)}
	at.places = append(at.places, make([]impl.Value, len(at.fn().Locals))...)
	r.levels = append(r.levels, at)
}

// ahead is the next instruction of a function, if there is one.
func (at *level) ahead() (impl.Ins, bool) {
	if at.next >= len(at.fn().Code) {
		return impl.Ins{}, false
	}
	return at.fn().Code[at.next], true
}

// markAll tells the types of values as a shape does.
func markAll(values []impl.Value) []impl.Mark {
	list := []impl.Mark{}
	for _, v := range values {
		list = append(list, mark(v.Type))
	}
	return list
}

// needed is what an instruction needs of a function, and puts.
func (at *level) needed(i impl.Ins) need {
	at.s = impl.Shape{Stack: markAll(at.stack), Places: markAll(at.places)}
	n := at.needOf(i)
	if i.Op == "ret" {
		left := at.s.Stack[:max(0, len(at.stack)-len(n.off))]
		n.just, n.on = false, nil
		for _, m := range left {
			n.dropped = append(n.dropped, m.Type)
		}
	}
	if i.Op == "call" {
		n.on = nil
	}
	return n
}

// lacks reports whether an instruction has not what it needs, but for what is where a reference leads, and for room.
func (at *level) lacks(n need) bool {
	if n.place || n.own || n.call || at.stackBad(n) {
		return true
	}
	return slices.ContainsFunc(n.copied, func(t string) bool { return !at.can(t, 1) }) ||
		slices.ContainsFunc(n.dropped, func(t string) bool { return !at.can(t, 2) })
}

// step does an instruction, and returns the code with which the run ends, or goesOn.
func (r *running) step(i impl.Ins) int {
	at := r.top()
	n := at.needed(i)
	if at.lacks(n) {
		return impl.EndWrong
	}
	if i.Op == "pack" || i.Op == "unpack" {
		r.made[i.Op+" "+at.ownKind(i.A)]++
	}
	if len(at.stack)-len(n.off)+len(n.on) > 12 {
		return impl.EndWrong
	}
	off := n.off
	rest := len(at.stack) - len(off)
	took := slices.Clone(at.stack[rest:])
	at.stack = at.stack[:rest:rest]
	at.next++
	switch i.Op {
	case "jump":
		at.next = i.A
	case "zero":
		if took[0].N == 0 {
			at.next = i.A
		}
	case "fail":
		r.n = took[0].N
		return impl.EndFail
	case "call":
		if len(r.levels) == 6 {
			return impl.EndDeep
		}
		r.enter(i.A, i.B, took)
	case "ret":
		r.levels = r.levels[:len(r.levels)-1]
		if len(r.levels) == 0 {
			r.rets = took
			return impl.EndDone
		}
		if r.top().stack = append(r.top().stack, took...); len(r.top().stack) > 12 {
			return impl.EndWrong
		}
	case "field", "read", "peek", "write", "freeze":
		return r.stepThere(at, i, took)
	case "keep", "take", "has", "see", "seew":
		return r.stepVault(at, i, took)
	default:
		return r.stepValues(at, i, took)
	}
	return goesOn
}

// stepValues does an instruction that makes values of such that it has.
func (r *running) stepValues(at *level, i impl.Ins, took []impl.Value) int {
	has := map[bool]int{true: 1}
	put := []impl.Value{}
	switch i.Op {
	case "num":
		put = []impl.Value{num(i.A)}
	case "true", "false", "me":
		put = []impl.Value{map[string]impl.Value{"true": truth(1), "false": truth(0), "me": owner(r.owner)}[i.Op]}
	case "add", "sub", "mul", "div", "mod":
		n := numberWanted(i.Op, took[0].N, took[1].N)
		if n < 0 || n > 1000000 {
			return impl.EndNumber
		}
		put = []impl.Value{num(n)}
	case "less":
		put = []impl.Value{truth(has[took[0].N < took[1].N])}
	case "same":
		put = []impl.Value{truth(has[textWanted(took[0]) == textWanted(took[1])])}
	case "and":
		put = []impl.Value{truth(took[0].N * took[1].N)}
	case "or":
		put = []impl.Value{truth(max(took[0].N, took[1].N))}
	case "not":
		put = []impl.Value{truth(1 - took[0].N)}
	case "copy":
		put = []impl.Value{at.places[i.A]}
	case "move":
		put, at.places[i.A] = []impl.Value{at.places[i.A]}, impl.Value{}
	case "put":
		at.places[i.A] = took[0]
	case "pack":
		put = []impl.Value{val(at.ownKind(i.A), took...)}
	case "unpack":
		put = took[0].Parts
	case "lend", "lendw":
		sign := map[string]string{"lend": "&", "lendw": "!"}[i.Op]
		put = []impl.Value{{Type: sign + at.places[i.A].Type, Path: []int{0, len(r.levels) - 1, i.A}}}
	}
	at.stack = append(at.stack, put...)
	return goesOn
}

// numberWanted is what comes of two numbers; -1 if one is divided by 0.
func numberWanted(op string, a int, b int) int {
	if b == 0 && (op == "div" || op == "mod") {
		return -1
	}
	by := max(b, 1)
	return map[string]int{"add": a + b, "sub": a - b, "mul": a * b, "div": a / by, "mod": a % by}[op]
}

// stepThere does an instruction that takes a reference off, for which something must be where that leads. Values are never changed in place, so what is copied stays.
func (r *running) stepThere(at *level, i impl.Ins, took []impl.Value) int {
	ref := took[0]
	spot, fields := r.spotOf(ref.Path)
	if spot == nil {
		return impl.EndWrong
	}
	there, ok := partOf(*spot, fields)
	if !ok || there.Type != ref.Type[1:] {
		return impl.EndWrong
	}
	switch i.Op {
	case "field":
		t := ref.Type[:1] + at.shelf[at.m].Records[i.B].Fields[i.A]
		at.stack = append(at.stack, impl.Value{Type: t, Path: append(slices.Clone(ref.Path), i.A)})
	case "freeze":
		at.stack = append(at.stack, impl.Value{Type: "&" + ref.Type[1:], Path: ref.Path})
	case "read":
		at.stack = append(at.stack, there)
	case "peek":
		at.stack = append(at.stack, ref, there)
	case "write":
		*spot = withPart(*spot, fields, took[1])
		if ref.Path[0] == 1 {
			r.kept[strconv.Itoa(ref.Path[1])+" "+spot.Type] = *spot
		}
	}
	return goesOn
}

// spotOf is the place, or a copy of what is in a vault, at which a path begins, and the fields behind that.
func (r *running) spotOf(path []int) (*impl.Value, []int) {
	if path[0] == 1 {
		v, ok := r.kept[strconv.Itoa(path[1])+" S"+strconv.Itoa(path[2])+strconv.Itoa(path[3])]
		if !ok {
			return nil, nil
		}
		return &v, path[4:]
	}
	if path[1] >= len(r.levels) || path[2] >= len(r.levels[path[1]].places) {
		return nil, nil
	}
	return &r.levels[path[1]].places[path[2]], path[3:]
}

// partOf is the part of a value to which fields lead.
func partOf(v impl.Value, fields []int) (impl.Value, bool) {
	for _, field := range fields {
		if field >= len(v.Parts) {
			return impl.Value{}, false
		}
		v = v.Parts[field]
	}
	return v, true
}

// withPart is a value with another one in place of the part to which fields lead.
func withPart(v impl.Value, fields []int, part impl.Value) impl.Value {
	if len(fields) == 0 {
		return part
	}
	v.Parts = slices.Clone(v.Parts)
	v.Parts[fields[0]] = withPart(v.Parts[fields[0]], fields[1:], part)
	return v
}

// stepVault does an instruction that asks for a record in a vault.
func (r *running) stepVault(at *level, i impl.Ins, took []impl.Value) int {
	o, kind := took[len(took)-1].N, at.ownKind(i.A)
	spot := strconv.Itoa(o) + " " + kind
	told := strconv.Itoa(o) + kind
	r.asks[told] = r.asks[told] || slices.Contains([]string{"keep", "take", "seew"}, i.Op)
	v, ok := r.kept[spot]
	if i.Op != "has" && ok == (i.Op == "keep") {
		return impl.EndVault
	}
	path := []int{1, o, at.m, i.A}
	switch i.Op {
	case "keep":
		r.kept[spot] = took[0]
	case "take":
		delete(r.kept, spot)
		at.stack = append(at.stack, v)
	case "has":
		at.stack = append(at.stack, truth(map[bool]int{true: 1}[ok]))
	case "see":
		at.stack = append(at.stack, impl.Value{Type: "&" + kind, Path: path})
	case "seew":
		at.stack = append(at.stack, impl.Value{Type: "!" + kind, Path: path})
	}
	return goesOn
}

// apart tells by the document's words whether all references to write are apart from all others.
func (r *running) apart() bool {
	paths, writes := []string{}, []bool{}
	for _, at := range r.levels {
		for _, v := range slices.Concat(at.stack, at.places) {
			if !isRef(v.Type) {
				continue
			}
			path := ""
			for _, n := range v.Path {
				path += strconv.Itoa(n) + "."
			}
			paths, writes = append(paths, path), append(writes, v.Type[0] == '!')
		}
	}
	for a := range paths {
		for b := range paths {
			if a != b && writes[a] && (strings.HasPrefix(paths[a], paths[b]) || strings.HasPrefix(paths[b], paths[a])) {
				return false
			}
		}
	}
	return true
}

// sameValues reports whether two lists of values are the same.
func sameValues(a []impl.Value, b []impl.Value) bool { return slices.EqualFunc(a, b, sameValue) }

func sameOutcome(a impl.Outcome, b impl.Outcome) bool {
	return a.Code == b.Code && a.N == b.N && a.Fuel == b.Fuel && sameValues(a.Rets, b.Rets) && sameKept(a.Vaults, b.Vaults)
}

// check holds all that is told of a run against what the document's words tell of it, and returns that.
func (a asked) check(t *testing.T) ran {
	t.Helper()
	want := a.wanted()
	if ok := a.ok(); ok != a.okWanted() {
		t.Errorf("CallOk of %v told %v", a, ok)
	}
	if out := a.run(); !sameOutcome(out, want.out) {
		t.Errorf("CallRun of %v told %v, not %v", a, out, want.out)
	}
	if words := a.words(); !slices.Equal(words, want.words) {
		t.Errorf("CallWords of %v told %q, not %q", a, words, want.words)
	}
	if steps := a.steps(); steps != len(want.words) {
		t.Errorf("CallSteps of %v told %d, not %d", a, steps, len(want.words))
	}
	if apart := a.apart(); apart != want.apart {
		t.Errorf("CallApart of %v told %v, not %v", a, apart, want.apart)
	}
	return want
}

// runShelf is a shelf of three modules with functions: those of each module are told by a text, and ` / ` parts modules, `; ` lines.
// S01, S11 and S12 can neither be copied nor dropped, S20 cannot be copied, and S21 not be dropped; S02, S12 and S21 cannot be kept; S12 has no fields. The second module is a friend of the first one.
func runShelf(funcs string) []impl.Module { return shelfOf(headsRun(), funcs) }

// headsRun are the records and friends of the modules of runShelf.
func headsRun() []string {
	return []string{"record 15 n\nrecord 12 S00 b\nrecord 3 n\nfriend 1\n", "record 15 n b\nrecord 8 S01 n o\nrecord 4\n", "record 10 n\nrecord 1 n\n"}
}

// shelfOf is a shelf of modules with such records and friends, and functions as a text tells them (runShelf).
func shelfOf(heads []string, funcs string) []impl.Module {
	shelf := []impl.Module{}
	texts := strings.Split(funcs, " / ")
	for m, head := range heads {
		if m < len(texts) && texts[m] != "" {
			head += strings.ReplaceAll(texts[m], "; ", "\n") + "\n"
		}
		module, ok := impl.ModuleRead(head)
		if !ok {
			panic("no module: " + head)
		}
		shelf = append(shelf, module)
	}
	return shelf
}

// askedOf is a run of the first function of the last module that a text tells (runShelf), by the owner 2, with arguments and vaults as texts parted by `; `, and 100 of fuel.
func askedOf(funcs string, args string, vaults string) asked {
	return askedIn(headsRun(), funcs, args, vaults)
}

// askedIn is such a run of a shelf with other records and friends (shelfOf).
func askedIn(heads []string, funcs string, args string, vaults string) asked {
	a := asked{shelf: shelfOf(heads, funcs), owner: 2, m: strings.Count(funcs, " / "), fuel: 100}
	for _, text := range textsOf(args) {
		a.args = append(a.args, read(a.kinds(), text))
	}
	a.vaults = vaultsOf(a.kinds(), textsOf(vaults)...)
	return a
}

// textsOf are the texts that `; ` parts; none in an empty one.
func textsOf(list string) []string {
	if list == "" {
		return nil
	}
	return strings.Split(list, "; ")
}

// endText is a text of how a run ended: the code, `/`, how many instructions it did, and the number or the results behind `:`.
func (a asked) endText(out impl.Outcome) string {
	text := strconv.Itoa(out.Code) + "/" + strconv.Itoa(a.fuel-out.Fuel)
	if out.Code == impl.EndFail {
		return text + ": " + strconv.Itoa(out.N)
	}
	for k, v := range out.Rets {
		text += []string{":", ";"}[min(k, 1)] + " " + textWanted(v)
	}
	return text
}

// A keptRow is a run (askedOf), how it ends (endText), and the vaults behind it.
type keptRow struct{ funcs, args, vaults, end, behind string }

// checkVaults holds how runs end, and the vaults behind them, against rows.
func checkVaults(t *testing.T, rows []keptRow) {
	t.Helper()
	for _, row := range rows {
		a := askedOf(row.funcs, row.args, row.vaults)
		out := a.run()
		a.check(t)
		if got := a.endText(out); got != row.end {
			t.Errorf("the run of %q with %q over %q ended with %q, not %q", row.funcs, row.args, row.vaults, got, row.end)
		}
		if !sameKept(out.Vaults, vaultsOf(a.kinds(), textsOf(row.behind)...)) {
			t.Errorf("the run of %q with %q over %q left %q, not %q", row.funcs, row.args, row.vaults, textKeptWanted(out.Vaults), row.behind)
		}
	}
}

// A runRow is a run, and how it ends; vaults stay as they are.
type runRow struct{ funcs, args, vaults, end string }

// checkRuns holds how runs end against rows.
func checkRuns(t *testing.T, rows []runRow) {
	t.Helper()
	for _, row := range rows {
		checkVaults(t, []keptRow{{row.funcs, row.args, row.vaults, row.end, row.vaults}})
	}
}

func TestRunConstants(t *testing.T) {
	got := []int{impl.FuelTop, impl.DepthTop, impl.EndDone, impl.EndFail, impl.EndFuel, impl.EndNumber, impl.EndVault, impl.EndDeep, impl.EndWrong, impl.EndNone}
	if !slices.Equal(got, []int{300, 6, 0, 1, 2, 3, 4, 5, 6, 7}) {
		t.Errorf("the constants are %v", got)
	}
}

// TestRunValues takes instructions that make new values.
func TestRunValues(t *testing.T) {
	checkRuns(t, []runRow{
		{"func 2 : : :; ret", "", "", "0/1"},
		{"func 2 : n : :; num 0; ret", "", "", "0/2: 0"},
		{"func 2 : n : :; num 1000000; ret", "", "", "0/2: 1000000"},
		{"func 2 : b b o : :; true; false; me; ret", "", "", "0/4: +; -; @2"},
		{"func 2 n n : n : :; copy 0; copy 1; add; ret", "8; 3", "", "0/4: 11"},
		{"func 2 n n : n : :; copy 0; copy 1; sub; ret", "8; 3", "", "0/4: 5"},
		{"func 2 n n : n : :; copy 0; copy 1; mul; ret", "8; 3", "", "0/4: 24"},
		{"func 2 n n : n : :; copy 0; copy 1; div; ret", "8; 3", "", "0/4: 2"},
		{"func 2 n n : n : :; copy 0; copy 1; mod; ret", "8; 3", "", "0/4: 2"},
		{"func 2 n n : n : :; copy 0; copy 1; div; ret", "3; 8", "", "0/4: 0"},
		{"func 2 n n : n : :; copy 0; copy 1; mod; ret", "3; 8", "", "0/4: 3"},
		{"func 2 n n : b : :; copy 0; copy 1; less; ret", "3; 8", "", "0/4: +"},
		{"func 2 n n : b : :; copy 0; copy 1; less; ret", "8; 3", "", "0/4: -"},
		{"func 2 n n : b : :; copy 0; copy 1; less; ret", "8; 8", "", "0/4: -"},
		{"func 2 b : b : :; copy 0; not; ret", "+", "", "0/3: -"},
		{"func 2 b : b : :; copy 0; not; ret", "-", "", "0/3: +"},
		{"func 2 n : : :; num 5; drop; ret", "1", "", "0/3"},
	})
	for k, args := range []string{"-; -", "-; +", "+; -", "+; +"} {
		checkRuns(t, []runRow{
			{"func 2 b b : b : :; copy 0; copy 1; and; ret", args, "", "0/4: " + []string{"-", "-", "-", "+"}[k]},
			{"func 2 b b : b : :; copy 0; copy 1; or; ret", args, "", "0/4: " + []string{"-", "+", "+", "+"}[k]},
		})
	}
}

// TestRunSame takes values that are equal, and such that differ in one thing alone.
func TestRunSame(t *testing.T) {
	for _, c := range []struct{ types, args, is string }{
		{"n", "3; 3", "+"}, {"n", "3; 4", "-"}, {"n", "0; 1000000", "-"}, {"b", "+; +", "+"}, {"b", "-; -", "+"}, {"b", "+; -", "-"}, {"b", "-; +", "-"},
		{"o", "@1; @1", "+"}, {"o", "@1; @3", "-"}, {"S00", "S00(3); S00(3)", "+"}, {"S00", "S00(3); S00(2)", "-"},
		{"S10", "S10(1 +); S10(1 +)", "+"}, {"S10", "S10(1 +); S10(1 -)", "-"}, {"S10", "S10(0 +); S10(1 +)", "-"}, {"S20", "S20(7); S20(7)", "+"}, {"S20", "S20(7); S20(8)", "-"},
	} {
		checkRuns(t, []runRow{{" /  / func 2 " + c.types + " " + c.types + " : b : :; move 0; move 1; same; ret", c.args, "", "0/4: " + c.is}})
	}
	shelf := []impl.Module{{Records: []impl.Record{rec(15), rec(15, "S00", "n"), rec(15, "S01", "S01", "b")}}}
	shelf[0].Funcs = []impl.Func{{Seen: 2, Args: []string{"S02", "S02"}, Rets: []string{"b"}, Code: codeOfText("copy 0; copy 1; same; ret")}}
	deep := func(a int, b int, c int) impl.Value {
		return val("S02", val("S01", val("S00"), num(a)), val("S01", val("S00"), num(b)), truth(c))
	}
	for k, v := range []impl.Value{deep(1, 2, 1), deep(2, 2, 1), deep(1, 1, 1), deep(1, 2, 0)} {
		a := asked{shelf: shelf, args: []impl.Value{deep(1, 2, 1), v}, fuel: 4}
		if got := a.check(t).out.Rets; len(got) != 1 || (got[0].N == 1) != (k == 0) {
			t.Errorf("same of deep records told %v", got)
		}
	}
}

// TestRunNumbers takes numbers at their limits, and such that would come beyond them.
func TestRunNumbers(t *testing.T) {
	for _, c := range []struct{ op, args, end string }{
		{"add", "1000000; 0", "0/4: 1000000"}, {"add", "999999; 1", "0/4: 1000000"}, {"add", "500000; 500000", "0/4: 1000000"}, {"add", "0; 0", "0/4: 0"},
		{"add", "1000000; 1", "3/3"}, {"add", "1; 1000000", "3/3"}, {"add", "1000000; 1000000", "3/3"}, {"add", "500000; 500001", "3/3"},
		{"sub", "5; 5", "0/4: 0"}, {"sub", "1000000; 1000000", "0/4: 0"}, {"sub", "1000000; 0", "0/4: 1000000"},
		{"sub", "5; 6", "3/3"}, {"sub", "0; 1", "3/3"}, {"sub", "0; 1000000", "3/3"},
		{"mul", "1000; 1000", "0/4: 1000000"}, {"mul", "1000000; 1", "0/4: 1000000"}, {"mul", "1; 1000000", "0/4: 1000000"}, {"mul", "1000000; 0", "0/4: 0"}, {"mul", "3; 333333", "0/4: 999999"},
		{"mul", "1000; 1001", "3/3"}, {"mul", "1000000; 2", "3/3"}, {"mul", "1000000; 1000000", "3/3"}, {"mul", "65536; 65536", "3/3"},
		{"div", "1000000; 1", "0/4: 1000000"}, {"div", "1000000; 1000000", "0/4: 1"}, {"div", "0; 5", "0/4: 0"}, {"div", "5; 0", "3/3"}, {"div", "0; 0", "3/3"},
		{"mod", "1000000; 1", "0/4: 0"}, {"mod", "999999; 1000000", "0/4: 999999"}, {"mod", "0; 5", "0/4: 0"}, {"mod", "5; 0", "3/3"}, {"mod", "0; 0", "3/3"},
	} {
		checkRuns(t, []runRow{{"func 2 n n : n : :; copy 0; copy 1; " + c.op + "; ret", c.args, "@1 S00(4)", c.end}})
	}
}

// TestRunPlaces takes instructions of places and records.
func TestRunPlaces(t *testing.T) {
	checkRuns(t, []runRow{
		{"func 2 n b : b n n : :; copy 1; copy 0; copy 0; ret", "4; +", "", "0/4: +; 4; 4"},
		{"func 2 n b : b n : :; move 1; move 0; ret", "4; +", "", "0/3: +; 4"},
		{"func 2 n : n n : n :; copy 0; put 1; num 9; put 0; move 1; move 0; ret", "4", "", "0/7: 4; 9"},
		{"func 2 n n : n n : :; move 0; move 1; put 0; put 1; move 0; move 1; ret", "4; 5", "", "0/7: 5; 4"},
		{" / func 2 n : n : o o S10 S11 b :; true; put 5; move 0; ret", "4", "", "0/4: 4"},
		{"func 2 S01 : S01 : S01 :; move 0; put 1; move 1; put 0; move 0; ret", "S01(S00(4) +)", "", "0/6: S01(S00(4) +)"},
		{"func 2 n b : S01 : :; move 0; pack 0; move 1; pack 1; ret", "4; +", "", "0/5: S01(S00(4) +)"},
		{"func 2 S01 : S00 b : :; move 0; unpack 1; ret", "S01(S00(4) +)", "", "0/3: S00(4); +"},
		{"func 2 S01 : b n : S00 :; move 0; unpack 1; move 1; unpack 0; ret", "S01(S00(4) +)", "", "6/3"},
		{"func 2 S01 : b n : b :; move 0; unpack 1; put 1; unpack 0; move 1; ret", "S01(S00(4) +)", "", "6/6"},
		{"func 2 S01 : n b : b :; move 0; unpack 1; put 1; unpack 0; move 1; ret", "S01(S00(4) +)", "", "0/6: 4; +"},
		{" / func 2 S11 : S01 n o : :; move 0; unpack 1; ret", "S11(S01(S00(4) +) 7 @3)", "", "0/3: S01(S00(4) +); 7; @3"},
		{" / func 2 S01 : S11 : :; move 0; num 7; me; pack 1; ret", "S01(S00(4) +)", "", "0/5: S11(S01(S00(4) +) 7 @2)"},
		{" / func 2 : S12 : :; pack 2; ret", "", "", "0/2: S12()"},
		{" / func 2 S12 : : :; move 0; unpack 2; ret", "S12()", "", "0/3"},
		{" / func 2 S00 : S00 S00 : :; copy 0; copy 0; ret", "S00(3)", "", "0/3: S00(3); S00(3)"},
		{" /  / func 2 S21 : S21 S21 : S21 :; copy 0; put 1; move 0; move 1; ret", "S21(3)", "", "0/5: S21(3); S21(3)"},
	})
}

// TestRunWays takes instructions that lead elsewhere.
func TestRunWays(t *testing.T) {
	checkRuns(t, []runRow{
		{"func 2 : n : :; jump 3; num 1; ret; num 2; ret", "", "", "0/3: 2"},
		{"func 2 : n : :; jump 3; num 1; ret; num 2; jump 2", "", "", "0/4: 2"},
		{"func 2 b : n : :; copy 0; zero 4; num 1; ret; num 2; ret", "+", "", "0/4: 1"},
		{"func 2 b : n : :; copy 0; zero 4; num 1; ret; num 2; ret", "-", "", "0/4: 2"},
		{"func 2 b : n : :; copy 0; zero 2; num 1; ret", "-", "", "0/4: 1"},
		{"func 2 n : n : n :; num 0; put 1; copy 0; num 0; same; not; zero 17; copy 1; copy 0; add; put 1; copy 0; num 1; sub; put 0; jump 2; ret; move 1; ret", "5", "", "0/79: 15"},
		{"func 2 n : n : :; move 0; ret; add", "4", "", "0/2: 4"},
		{"func 2 : : :; num 7; fail", "", "", "1/2: 7"},
		{"func 2 : : :; num 0; fail; ret", "", "", "1/2: 0"},
		{" / func 2 S11 : b : :; me; move 0; num 1000000; fail", "S11(S01(S00(4) +) 7 @3)", "", "1/4: 1000000"},
		{"func 2 : : :; jump 0", "", "", "2/100"},
	})
}

// TestRunCalls takes calls of functions of the own module, of earlier ones, and of friends.
func TestRunCalls(t *testing.T) {
	checkRuns(t, []runRow{
		{"func 2 n b : b n n : :; move 0; move 1; call 0 1; num 5; ret; func 0 n b : b n : :; move 1; move 0; ret", "4; +", "", "0/8: +; 4; 5"},
		{"func 2 n : n : :; num 1; copy 0; call 0 1; add; ret; func 0 n : n : n :; copy 0; copy 0; mul; put 1; move 1; ret", "9", "", "0/11: 82"},
		{"func 2 n : n : :; copy 0; zero 0; ret; func 0 n : n : :; num 1; ret", "4", "", "6/2"},
		{"func 2 n : n : :; num 0; copy 0; less; zero 9; copy 0; num 1; sub; call 0 0; jump 10; num 0; copy 0; add; ret", "4", "", "0/56: 10"},
		{"func 1 : n : :; num 3; ret / func 2 : n : :; call 0 0; ret", "", "", "0/4: 3"},
		{"func 2 : n : :; num 3; ret / func 0 : n : :; num 4; ret / func 2 : n : :; call 0 0; ret", "", "", "0/4: 3"},
		{"func 2 : o : :; me; ret / func 2 : o b : :; call 0 0; call 1 1; ret; func 0 : b : :; true; ret", "", "", "0/7: @2; +"},
		{"func 2 : : :; num 4; fail / func 2 : n : :; call 0 0; num 7; ret", "", "", "1/3: 4"},
		{"func 2 n : : :; num 4; put 0; ret / func 2 n : n : :; copy 0; call 0 0; move 0; ret", "8", "", "0/7: 8"},
		{"func 2 S01 : n : :; move 0; unpack 1; drop; unpack 0; ret / func 2 S11 : n : :; move 0; unpack 1; drop; drop; call 0 0; ret", "S11(S01(S00(4) +) 7 @3)", "", "0/11: 4"},
	})
}

// TestRunVaults takes instructions that ask for records in vaults, of each owner and each kind.
func TestRunVaults(t *testing.T) {
	checkVaults(t, []keptRow{
		{"func 2 n o : : :; move 0; pack 0; move 1; keep 0; ret", "4; @3", "", "0/5", "@3 S00(4)"},
		{"func 2 n : : :; move 0; pack 0; me; keep 0; ret", "4", "@1 S00(1); @2 S01(S00(1) +); @3 S00(3)", "0/5", "@1 S00(1); @2 S00(4); @2 S01(S00(1) +); @3 S00(3)"},
		{"func 2 n : : :; move 0; pack 0; me; keep 0; ret", "4", "@2 S00(1)", "4/4", "@2 S00(1)"},
		{"func 2 o : b : :; move 0; has 0; ret", "@1", "@1 S00(1)", "0/3: +", "@1 S00(1)"},
		{"func 2 o : b : :; move 0; has 0; ret", "@1", "@0 S00(1); @1 S01(S00(1) +); @1 S10(1 +); @2 S00(5)", "0/3: -", "@0 S00(1); @1 S01(S00(1) +); @1 S10(1 +); @2 S00(5)"},
		{" / func 2 o : b : :; move 0; has 0; ret", "@1", "@1 S00(1)", "0/3: -", "@1 S00(1)"},
		{" / func 2 o : b : :; move 0; has 0; ret", "@1", "@1 S00(1); @1 S10(1 +)", "0/3: +", "@1 S00(1); @1 S10(1 +)"},
		{"func 2 o : S01 : :; move 0; take 1; ret", "@1", "@1 S01(S00(1) +)", "0/3: S01(S00(1) +)", ""},
		{"func 2 o : S01 : :; move 0; take 1; ret", "@1", "@0 S01(S00(0) +); @1 S00(3); @1 S01(S00(1) +); @2 S01(S00(2) +)", "0/3: S01(S00(1) +)", "@0 S01(S00(0) +); @1 S00(3); @2 S01(S00(2) +)"},
		{"func 2 o : S01 : :; move 0; take 1; ret", "@1", "@0 S01(S00(0) +); @1 S00(3); @2 S01(S00(2) +)", "4/2", "@0 S01(S00(0) +); @1 S00(3); @2 S01(S00(2) +)"},
		{"func 2 o : S01 : :; copy 0; take 1; move 0; take 1; ret", "@1", "@1 S01(S00(1) +)", "4/4", "@1 S01(S00(1) +)"},
		{"func 2 o : b b b : :; copy 0; has 1; copy 0; take 1; copy 0; has 1; put 0; ret", "@1", "@1 S01(S00(1) +)", "6/7", "@1 S01(S00(1) +)"},
		{"func 2 o : b b b : S01 :; copy 0; has 1; copy 0; take 1; put 1; copy 0; has 1; move 1; copy 0; keep 1; copy 0; has 1; ret", "@1", "@1 S01(S00(1) +)", "0/13: +; -; +", "@1 S01(S00(1) +)"},
		{"func 2 o o : : :; copy 0; take 1; copy 1; keep 1; ret", "@1; @3", "@1 S01(S00(1) +)", "0/5", "@3 S01(S00(1) +)"},
		{"func 2 o o : : :; copy 0; take 1; copy 1; keep 1; ret", "@1; @3", "@1 S01(S00(1) +); @3 S01(S00(3) -)", "4/4", "@1 S01(S00(1) +); @3 S01(S00(3) -)"},
		{"func 2 o : n : :; move 0; see 0; field 0 0; read; ret", "@1", "@0 S00(5); @1 S00(6); @2 S00(7)", "0/5: 6", "@0 S00(5); @1 S00(6); @2 S00(7)"},
		{"func 2 o : n : :; move 0; see 0; field 0 0; read; ret", "@3", "@0 S00(5); @1 S00(6); @2 S00(7)", "4/2", "@0 S00(5); @1 S00(6); @2 S00(7)"},
		{"func 2 o n : : :; move 0; seew 0; field 0 0; move 1; write; ret", "@1; 9", "@0 S00(5); @1 S00(6); @2 S00(7)", "0/6", "@0 S00(5); @1 S00(9); @2 S00(7)"},
		{"func 2 o n : : :; move 0; seew 0; field 0 0; move 1; write; ret", "@1; 9", "@0 S00(5); @1 S01(S00(6) +); @2 S00(7)", "4/2", "@0 S00(5); @1 S01(S00(6) +); @2 S00(7)"},
		{"func 2 o n : : :; move 0; seew 1; field 0 1; move 1; pack 0; write; ret", "@1; 9", "@1 S01(S00(6) +)", "0/7", "@1 S01(S00(9) +)"},
		{"func 2 o n : : :; move 0; seew 0; move 1; pack 0; write; ret", "@1; 9", "@1 S00(6); @1 S01(S00(6) +)", "0/6", "@1 S00(9); @1 S01(S00(6) +)"},
		{" / func 2 S01 : : :; move 0; num 3; me; pack 1; me; keep 1; ret", "S01(S00(6) +)", "", "0/7", "@2 S11(S01(S00(6) +) 3 @2)"},
		{" /  / func 2 : : :; num 3; pack 0; me; keep 0; ret", "", "@2 S10(1 +)", "0/5", "@2 S10(1 +); @2 S20(3)"},
		{"func 0 S01 : : :; move 0; me; keep 1; ret; func 2 : : :; ret / func 2 S01 : : :; move 0; call 0 0; ret", "S01(S00(6) +)", "", "6/2", ""},
		{"func 1 S01 : : :; move 0; me; keep 1; ret; func 2 : : :; ret / func 2 S01 : : :; move 0; call 0 0; ret", "S01(S00(6) +)", "", "0/7", "@2 S01(S00(6) +)"},
	})
}

// TestRunLeavesNothing takes runs that change vaults, and then end in each way but EndDone: nothing of it is left.
func TestRunLeavesNothing(t *testing.T) {
	kept := "@0 S01(S00(1) +); @2 S00(4); @2 S01(S00(2) -); @3 S01(S00(3) +)"
	change := "func 2 : S01 : S01 :; me; take 1; put 0; num 9; pack 0; false; pack 1; num 1; drop; num 1; pack 0; drop; me; seew 0; num 5; pack 0; write; num 1; pack 0; move 0; unpack 1; drop; drop; drop; "
	for ends, end := range map[string]string{
		"num 77; fail": "1/26: 77", "jump 24": "2/100", "num 0; num 1; sub": "3/27", "me; take 1": "4/26", "num 8; pack 0; me; keep 0": "4/28",
		"call 0 1": "5/30", "add": "6/25", "me; drop": "6/26", "jump 39": "6/25",
	} {
		checkVaults(t, []keptRow{{change + ends + "; func 0 : : :; call 0 1", "", kept, end, kept}})
	}
	checkVaults(t, []keptRow{{change + "ret; func 0 : : :; call 0 1", "", kept, "0/25: S01(S00(9) -)", "@0 S01(S00(1) +); @2 S00(5); @3 S01(S00(3) +)"}})
}

// TestRunReferences takes references to places, to fields within fields, and to what is in vaults, to read and to write.
func TestRunReferences(t *testing.T) {
	checkVaults(t, []keptRow{
		{"func 2 n : n : :; lend 0; read; ret", "4", "", "0/3: 4", ""},
		{"func 2 n : n : :; lendw 0; read; ret", "4", "", "0/3: 4", ""},
		{"func 2 n : n : :; lendw 0; freeze; read; ret", "4", "", "0/4: 4", ""},
		{"func 2 n : n n : :; lend 0; peek; put 0; read; copy 0; ret", "4", "", "0/6: 4; 4", ""},
		{"func 2 n : n n : !n :; lendw 0; put 1; move 1; peek; num 1; add; write; copy 0; lend 0; read; ret", "4", "", "0/11: 5; 5", ""},
		{"func 2 n : n n : !n n :; lendw 0; peek; put 2; copy 2; num 1; add; write; copy 0; copy 2; ret", "4", "", "0/10: 5; 4", ""},
		{"func 2 n : n : :; lendw 0; num 9; write; move 0; ret", "4", "", "0/5: 9", ""},
		{"func 2 n : n n : &n :; lend 0; put 1; copy 1; read; copy 1; read; ret", "4", "", "0/7: 4; 4", ""},
		{"func 2 n : n : :; lend 0; num 9; put 0; read; ret", "4", "", "0/5: 9", ""},
		{"func 2 S01 : n b : :; lend 0; field 0 1; field 0 0; read; lend 0; field 1 1; read; ret", "S01(S00(4) +)", "", "6/8", ""},
		{"func 2 o : n b : :; copy 0; see 1; field 0 1; field 0 0; read; copy 0; see 1; field 1 1; read; ret", "@3", "@3 S01(S00(4) +)", "0/10: 4; +", "@3 S01(S00(4) +)"},
		{"func 2 S01 : S01 : :; lendw 0; field 0 1; field 0 0; num 9; write; lendw 0; field 1 1; false; write; move 0; ret", "S01(S00(4) +)", "", "0/11: S01(S00(9) -)", ""},
		{"func 2 S01 : S01 : :; lendw 0; field 0 1; num 9; pack 0; write; move 0; ret", "S01(S00(4) +)", "", "0/7: S01(S00(9) +)", ""},
		{"func 2 S01 : S00 S01 : :; lend 0; field 0 1; read; move 0; ret", "S01(S00(4) +)", "", "0/5: S00(4); S01(S00(4) +)", ""},
		{"func 2 S01 : S00 S01 : S00 :; lendw 0; field 0 1; peek; put 1; field 0 0; num 9; write; move 1; move 0; ret", "S01(S00(4) +)", "", "0/10: S00(4); S01(S00(9) +)", ""},
		{"func 2 : S00 S00 : S00 S00 :; num 4; pack 0; put 0; copy 0; put 1; lendw 0; field 0 0; num 9; write; move 0; move 1; ret", "", "", "0/12: S00(9); S00(4)", ""},
		{"func 2 o : S00 : S00 :; copy 0; see 0; read; put 1; copy 0; seew 0; field 0 0; num 9; write; move 1; ret", "@1", "@1 S00(4)", "0/11: S00(4)", "@1 S00(9)"},
		{"func 2 o : S00 : :; copy 0; seew 0; num 9; pack 0; write; move 0; see 0; read; ret", "@1", "@1 S00(4)", "0/9: S00(9)", "@1 S00(9)"},
		{"func 2 n : n : :; lendw 0; call 0 1; move 0; ret; func 0 !n : : :; move 0; num 9; write; ret", "4", "", "0/8: 9", ""},
		{"func 2 n n : n n n : :; lend 0; lendw 1; call 0 1; copy 0; copy 1; ret; func 0 &n !n : n : :; move 1; num 9; write; copy 0; read; ret", "4; 5", "", "0/12: 4; 4; 9", ""},
		{"func 2 n : n : :; lend 0; call 0 1; read; ret; func 0 &n : &n : :; move 0; ret", "4", "", "0/6: 4", ""},
		{"func 2 n : n : :; lendw 0; call 0 1; ret; func 0 !n : n : n :; num 8; put 1; lendw 1; call 0 2; move 0; call 0 2; move 1; ret; func 0 !n : : :; move 0; peek; num 1; add; write; ret", "4", "", "0/23: 9", ""},
		{"func 2 n : n n : :; lendw 0; call 0 1; copy 0; ret; func 0 !n : n : n :; num 8; put 1; lendw 1; call 0 2; move 0; call 0 2; move 1; ret; func 0 !n : : n :; copy 0; ret", "4", "", "6/7", ""},
		{"func 2 n : n n : :; lendw 0; call 0 1; copy 0; ret; func 0 !n : n : n :; num 8; put 1; lendw 1; call 0 2; move 0; call 0 2; move 1; ret; func 0 !n : : n :; move 0; peek; put 1; copy 1; num 1; add; write; ret", "4", "", "0/28: 9; 5", ""},
		{"func 2 n : n n : :; lendw 0; call 0 1; copy 0; ret; func 0 !n : n : n :; num 8; put 1; lendw 1; call 0 2; move 0; call 0 2; move 1; ret; func 0 !n : : n :; move 0; num 7; write; ret", "4", "", "0/20: 7; 7", ""},
		{"func 1 &S01 : n : :; move 0; field 0 1; field 0 0; read; ret / func 2 o : n : :; move 0; see 1; field 0 1; call 0 0; ret", "@0", "@0 S11(S01(S00(6) +) 3 @2)", "0/10: 6", "@0 S11(S01(S00(6) +) 3 @2)"},
		{"func 1 !S01 : : :; move 0; field 0 1; field 0 0; num 9; write; ret / func 2 o : : :; move 0; seew 1; field 0 1; call 0 0; ret", "@0", "@0 S01(S00(5) +); @0 S11(S01(S00(6) +) 3 @2)", "0/11", "@0 S01(S00(5) +); @0 S11(S01(S00(9) +) 3 @2)"},
		{"func 2 n : n : &n !n :; lend 0; put 1; lendw 0; put 2; num 3; ret", "4", "", "0/6: 3", ""},
	})
}

// TestRunReferencesCopied takes copies of a reference that lead on by different fields, none of which changes where another one leads.
func TestRunReferencesCopied(t *testing.T) {
	code := "lend 0; field 0 2; put 1; copy 1; field 0 1; put 2; copy 1; field 1 1; put 3; copy 2; field 0 0; read; copy 3; read; copy 1; read; ret"
	fn := impl.Func{Seen: 2, Args: []string{"S02"}, Rets: []string{"n", "n", "S01"}, Locals: []string{"&S01", "&S00", "&n"}, Code: codeOfText(code)}
	a := asked{shelf: []impl.Module{{Records: kindsRun()[2][0], Funcs: []impl.Func{fn}}}, fuel: 100}
	a.shelf[0].Records[2].Able = 15
	a.args = []impl.Value{read(a.kinds(), "S02(S01(S00(4) 5) S00(6))")}
	if got := a.endText(a.check(t).out); got != "0/17: 4; 5; S01(S00(4) 5)" {
		t.Errorf("the run ended with %q", got)
	}
}

// TestRunGone takes references that lead to what was moved, written, or is gone, or to something else that is there now.
func TestRunGone(t *testing.T) {
	checkVaults(t, []keptRow{
		{"func 2 n : n : n :; lend 0; move 0; put 1; read; ret", "4", "", "6/4", ""},
		{"func 2 n : n : n :; lend 0; move 0; put 1; peek; ret", "4", "", "6/4", ""},
		{"func 2 n : n : n :; lendw 0; move 0; put 1; num 5; write; move 1; ret", "4", "", "6/5", ""},
		{"func 2 n : n : n :; lend 0; move 0; put 1; drop; move 1; ret", "4", "", "0/6: 4", ""},
		{"func 2 S00 : S00 : S00 :; lendw 0; field 0 0; move 0; put 1; num 5; write; move 1; ret", "S00(4)", "", "6/6", ""},
		{"func 2 n : n : n :; lend 0; move 0; put 1; num 8; put 0; read; ret", "4", "", "0/7: 8", ""},
		{"func 2 n : n n : n :; lendw 0; move 0; put 1; num 8; put 0; num 9; write; move 0; move 1; ret", "4", "", "0/10: 9; 4", ""},
		{"func 2 S00 : n : :; lend 0; field 0 0; num 8; pack 0; put 0; read; ret", "S00(4)", "", "0/7: 8", ""},
		{"func 2 S01 : n S01 : &n :; lend 0; field 0 1; field 0 0; put 1; lendw 0; field 0 1; num 8; pack 0; write; copy 1; read; move 0; ret", "S01(S00(4) +)", "", "0/13: 8; S01(S00(8) +)", ""},
		{"func 2 n : n : :; lendw 0; lendw 0; num 5; write; num 6; write; move 0; ret", "4", "", "0/8: 6", ""},
		{"func 2 o : S00 : S00 :; copy 0; see 0; copy 0; take 0; put 1; read; ret", "@1", "@1 S00(4)", "6/6", "@1 S00(4)"},
		{"func 2 o : n : S00 :; copy 0; see 0; copy 0; take 0; put 1; num 9; pack 0; copy 0; keep 0; field 0 0; read; ret", "@1", "@1 S00(4)", "0/12: 9", "@1 S00(9)"},
		{"func 2 o : : S00 :; copy 0; seew 0; copy 0; take 0; put 1; num 9; pack 0; write; ret", "@1", "@1 S00(4); @2 S00(5)", "6/8", "@1 S00(4); @2 S00(5)"},
		{"func 2 o : : :; copy 0; seew 0; copy 0; take 0; drop; drop; ret", "@1", "@1 S00(4)", "0/7", ""},
		{"func 2 o : S00 : :; copy 0; see 0; copy 0; take 0; me; keep 0; read; ret", "@1", "@1 S00(4)", "6/7", "@1 S00(4)"},
		{"func 2 o : S00 : :; me; see 0; copy 0; take 0; drop; read; ret", "@1", "@1 S00(4); @2 S00(5)", "0/7: S00(5)", "@2 S00(5)"},
		{"func 2 : n : :; call 0 1; read; ret; func 0 : &n : n :; num 7; put 0; lend 0; ret", "", "", "6/6", ""},
		{"func 2 : : :; call 0 1; drop; ret; func 0 : &n : n :; num 7; put 0; lend 0; ret", "", "", "0/7", ""},
		{"func 2 : n : :; call 0 1; call 0 2; ret; func 0 : &n : n :; num 7; put 0; lend 0; ret; func 0 &n : n : n :; num 8; put 1; copy 0; read; ret", "", "", "6/10", ""},
		{"func 2 : n : :; call 0 1; call 0 2; ret; func 0 : &n : n :; num 7; put 0; lend 0; ret; func 0 &n : n : n :; copy 0; put 0; copy 0; read; ret", "", "", "6/10", ""},
		{"func 2 : n : :; call 0 1; num 8; call 0 2; ret; func 0 : &n : b n :; num 7; put 1; lend 1; ret; func 0 &n n : n : :; copy 0; read; ret", "", "", "0/11: 8", ""},
		{"func 2 : n : :; call 0 1; true; call 0 2; ret; func 0 : &n : b n :; num 7; put 1; lend 1; ret; func 0 &n b : n : :; copy 0; read; ret", "", "", "6/9", ""},
		{"func 2 : n : :; call 0 1; call 0 2; ret; func 0 : &n : b n :; num 7; put 1; lend 1; ret; func 0 &n : n : :; copy 0; read; ret", "", "", "6/8", ""},
		{"func 2 : n : :; call 0 1; call 0 2; ret; func 0 : &n : b S00 :; num 7; pack 0; put 1; lend 1; field 0 0; ret; func 0 &n : n : n :; num 3; put 1; copy 0; read; ret", "", "", "6/12", ""},
		{"func 2 : n : :; num 6; pack 0; call 0 1; call 0 2; ret; func 0 S00 : !S00 n : n :; lendw 0; num 5; ret; func 0 !S00 n : n : :; num 0; put 1; move 0; field 0 0; num 3; write; num 2; ret", "", "", "6/11", ""},
	})
}

// TestRunGoneOn takes `field` and `freeze` of references that lead to nothing, or to something of another type: that goes wrong there, though they do not look at it.
// To drop such a reference, or to move it about, does not, and what is there again is not gone.
func TestRunGoneOn(t *testing.T) {
	checkVaults(t, []keptRow{
		{"func 2 S00 : S00 : S00 :; lend 0; move 0; put 1; field 0 0; drop; move 1; ret", "S00(4)", "", "6/4", ""},
		{"func 2 S00 : S00 : S00 :; lendw 0; move 0; put 1; field 0 0; drop; move 1; ret", "S00(4)", "", "6/4", ""},
		{"func 2 S00 : S00 : S00 :; lend 0; move 0; put 1; drop; move 1; ret", "S00(4)", "", "0/6: S00(4)", ""},
		{"func 2 S00 : S00 : &S00 S00 :; lend 0; put 1; move 0; put 2; copy 1; put 1; move 1; drop; move 2; ret", "S00(4)", "", "0/10: S00(4)", ""},
		{"func 2 S00 : S00 : S00 :; lendw 0; move 0; put 1; call 0 1; drop; move 1; ret; func 0 !S00 : !S00 : :; move 0; ret", "S00(4)", "", "0/9: S00(4)", ""},
		{"func 2 S00 : n : S00 :; lend 0; move 0; put 1; num 8; pack 0; put 0; field 0 0; read; ret", "S00(4)", "", "0/9: 8", ""},
		{"func 2 n : n : n :; lendw 0; move 0; put 1; freeze; drop; move 1; ret", "4", "", "6/4", ""},
		{"func 2 n : n : n :; lendw 0; move 0; put 1; drop; move 1; ret", "4", "", "0/6: 4", ""},
		{"func 2 n : n : n :; lendw 0; move 0; put 1; num 8; put 0; freeze; read; ret", "4", "", "0/8: 8", ""},
		{"func 2 S00 : n : S00 :; lendw 0; field 0 0; move 0; put 1; freeze; drop; num 5; ret", "S00(4)", "", "6/5", ""},
		{"func 2 S01 : S01 : S01 :; lend 0; field 0 1; move 0; put 1; field 0 0; drop; move 1; ret", "S01(S00(4) +)", "", "6/5", ""},
		{"func 2 o : n : S00 :; copy 0; see 0; copy 0; take 0; put 1; field 0 0; drop; num 5; ret", "@1", "@1 S00(4); @2 S00(5)", "6/6", "@1 S00(4); @2 S00(5)"},
		{"func 2 o : n : S00 :; copy 0; seew 0; copy 0; take 0; put 1; field 0 0; drop; num 5; ret", "@1", "@1 S00(4); @2 S00(5)", "6/6", "@1 S00(4); @2 S00(5)"},
		{"func 2 o : n : S00 :; copy 0; seew 0; copy 0; take 0; put 1; freeze; drop; num 5; ret", "@1", "@1 S00(4); @2 S00(5)", "6/6", "@1 S00(4); @2 S00(5)"},
		{"func 2 o : n : S00 :; copy 0; seew 0; field 0 0; copy 0; take 0; put 1; freeze; drop; num 5; ret", "@1", "@1 S00(4)", "6/7", "@1 S00(4)"},
		{"func 2 o : n : S00 :; copy 0; seew 0; copy 0; take 0; put 1; drop; num 5; ret", "@1", "@1 S00(4); @2 S00(5)", "0/8: 5", "@2 S00(5)"},
		{"func 2 o : n : :; copy 0; seew 0; copy 0; take 0; copy 0; keep 0; freeze; field 0 0; read; ret", "@1", "@1 S00(4)", "0/10: 4", "@1 S00(4)"},
		{"func 2 o : n : :; copy 0; seew 0; copy 0; take 0; me; keep 0; freeze; drop; num 5; ret", "@1", "@1 S00(4)", "6/7", "@1 S00(4)"},
		{"func 2 : : :; call 0 1; field 0 0; drop; ret; func 0 : &S00 : S00 :; num 7; pack 0; put 0; lend 0; ret", "", "", "6/7", ""},
		{"func 2 : : :; call 0 1; freeze; drop; ret; func 0 : !n : n :; num 7; put 0; lendw 0; ret", "", "", "6/6", ""},
		{"func 2 : : :; call 0 1; drop; ret; func 0 : !n : n :; num 7; put 0; lendw 0; ret", "", "", "0/7", ""},
		// Of another type: a place of a function that is gone is that of a later one now.
		{"func 2 : : :; call 0 1; true; call 0 2; ret; func 0 : !n : b n :; num 7; put 1; lendw 1; ret; func 0 !n b : : :; move 0; freeze; drop; ret", "", "", "6/9", ""},
		{"func 2 : : :; call 0 1; num 8; call 0 2; ret; func 0 : !n : b n :; num 7; put 1; lendw 1; ret; func 0 !n n : : :; move 0; freeze; drop; ret", "", "", "0/12", ""},
		{"func 2 : : :; call 0 1; call 0 2; ret; func 0 : &S00 : b S00 :; num 7; pack 0; put 1; lend 1; ret; func 0 &S00 : : n :; num 3; put 1; move 0; field 0 0; drop; ret", "", "", "6/11", ""},
		{"func 2 : : :; call 0 1; call 0 2; ret; func 0 : &S00 : b S00 :; num 7; pack 0; put 1; lend 1; ret; func 0 &S00 : : S00 :; num 3; pack 0; put 1; move 0; field 0 0; drop; ret", "", "", "0/15", ""},
	})
}

// shelfWrong has a function whose places are filled but for the last two, for instructions that go wrong, and others that can be called by it or not.
func shelfWrong() []impl.Module {
	return runShelf("func 0 : : :; ret; func 2 : S00 : :; num 4; pack 0; ret; func 1 !S01 : !S00 : :; move 0; field 0 1; ret" +
		" / func 2 n S10 S01 : : S12 &S10 !n :; ret; func 2 n b : : :; ret; func 2 !n : : :; ret")
}

// runWrong runs code in the first function of the second module of shelfWrong, and returns how that ended.
func runWrong(t *testing.T, code string) ran {
	t.Helper()
	a := asked{shelf: shelfWrong(), owner: 1, m: 1, fuel: 100}
	a.args = []impl.Value{num(5), read(a.kinds(), "S10(3 +)"), read(a.kinds(), "S01(S00(4) -)")}
	a.shelf[1].Funcs[0].Code = codeOfText("pack 2; put 3; " + code)
	return a.check(t)
}

// checkWrong holds that code does not go wrong, but an instruction behind it does.
func checkWrong(t *testing.T, code string, do string) {
	t.Helper()
	well, wrong := runWrong(t, code+"num 1; fail"), runWrong(t, code+do+"; num 1; fail")
	if well.out.Code != impl.EndFail {
		t.Errorf("%q ended with %d at %q", code, well.out.Code, well.words)
	}
	if wrong.out.Code != impl.EndWrong || len(wrong.words) != len(well.words)-1 {
		t.Errorf("%q behind %q ended with %d at %q", do, code, wrong.out.Code, wrong.words)
	}
}

// codeOfStack are instructions that put values of types on the stack.
func codeOfStack(types string) string {
	code := ""
	for t := range strings.FieldsSeq(types) {
		code += map[string]string{
			"n": "num 1; ", "b": "true; ", "o": "me; ", "S10": "num 1; true; pack 0; ", "S12": "pack 2; ", "&n": "lend 0; ", "!n": "lendw 0; ", "&S10": "lend 1; ", "!S10": "lendw 1; ",
			"&S12": "lend 3; ", "!S12": "lendw 3; ", "S01": "move 2; ", "S00": "call 0 1; ", "!S00": "lendw 2; call 0 2; ", "&S01": "lend 2; ",
		}[t]
	}
	return code
}

// TestRunWrong takes each instruction without what it needs: values that are not there, or have other types, and types that lack an ability.
func TestRunWrong(t *testing.T) {
	for list, stacks := range map[string]string{
		"add sub mul div mod less":      ",n,b,n b,b n,o o,n o,&n n,n !n,S10 n,n n b",
		"same":                          ",n,n b,b n,o n,S12 S12,S10 S00,S01 S12,&n &n,!n !n,&S10 &S10,n &n,n n b",
		"and or":                        ",b,n b,b n,n o,o b,b S10",
		"not zero#0":                    ",n,o,S10,&n,b n",
		"drop":                          ",S12,S01,n S01",
		"put#0":                         ",b,o,S10,&n,!n,n b",
		"put#1":                         ",n,S00,&S10,S12,S10 n",
		"put#3":                         ",S12,n,S10",
		"put#4":                         ",n,S12,S10,!n,!S10,&S12",
		"put#5":                         ",n,S12,S10,&n,!S10",
		"pack#0":                        ",n,b,n n,b n,b b,n o,n b n,b b",
		"pack#1":                        ",n o,S01 n,S01 n b,S01 b o,S00 n o,S12 n o,n o S01,S01 o n,&S01 n o",
		"unpack#0":                      ",n,S12,S00,&S10,!S10,S10 n",
		"unpack#1":                      ",n,S10,S12,S01",
		"unpack#2":                      ",S10,n,&S12",
		"field#0,0":                     ",n,S10,&n,!n,&S12,!S12,!S00,&S10 n",
		"field#2,0 field#0,2 field#0,1": ",n,S10,&S10,!S10,&S12,!S12,!S00",
		"read peek":                     ",n,b,o,S10,S12,&S12,!S12,&n n",
		"write":                         ",n,!n,n !n,&n n,&S10 S10,!n b,!S10 n,!S10 S12,!S12 S12,n n,!S10 S00,!n !n,!n &n",
		"freeze":                        ",n,S10,&n,&S10,!n n",
		"keep#0":                        ",o,S10,n o,S10 n,o S10,S12 o,S00 o,&S10 o,!S10 o",
		"keep#1":                        ",o,S10 o,S12 o,S01 o",
		"keep#2":                        ",o,S12 o,S12",
		"take#0 has#0 see#0 seew#0":     ",n,b,S10,&n,o n",
		"take#1 has#1 see#1 seew#1":     ",n,b,S10,&n,o n",
		"take#2 has#2 see#2 seew#2":     ",o,S12",
		"fail":                          ",b,o,S10,&n,n b",
		"call#1,1":                      ",n,b,n n,b b,b n,n b n,&n b,n &n",
		"call#1,2":                      ",n,&n,!S10,!n n",
		"call#1,3 call#0,0 call#0,3":    ",n,!n",
		"copy#2 copy#3 copy#4 copy#5":   ",n",
		"move#4 lend#4 lendw#4":         ",&n",
		"ret":                           "n,n n n", // what is in places cannot be dropped
	} {
		for text := range strings.FieldsSeq(list) {
			for _, stack := range strings.Split(stacks, ",") {
				checkWrong(t, codeOfStack(stack), strings.NewReplacer("#", " ", ",", " ").Replace(text))
			}
		}
	}
	for _, row := range [][2]string{
		{"lend 1; put 4; ", "lend 4"}, {"lend 1; put 4; ", "lendw 4"}, {"lendw 0; put 5; ", "lend 5"}, {"lendw 0; put 5; ", "lendw 5"}, {"lendw 0; put 5; ", "copy 5"},
		{"move 0; drop; ", "copy 0"}, {"move 0; drop; ", "move 0"}, {"move 0; drop; ", "lend 0"}, {"move 0; drop; ", "lendw 0"}, {"move 2; ", "lendw 2"}, {"lendw 2; call 0 2; ", "call 0 2"},
	} {
		checkWrong(t, row[0], row[1])
	}
}

// TestRunWrongNone takes places, records, fields and functions that are none, in functions and modules that have none, or few.
func TestRunWrongNone(t *testing.T) {
	checkRuns(t, []runRow{
		{"func 2 : : :; copy 0; ret", "", "", "6/1"}, {"func 2 : : :; move 5; ret", "", "", "6/1"}, {"func 2 : : :; lend 0; ret", "", "", "6/1"},
		{"func 2 : : :; lendw 1; ret", "", "", "6/1"}, {"func 2 : : :; num 1; put 0; ret", "", "", "6/2"}, {"func 2 n : : n :; num 1; put 1; num 2; put 2; ret", "3", "", "6/4"},
		{"func 2 n : : n :; copy 2; ret", "3", "", "6/1"}, {"func 2 n n n : n : n n n :; num 9; put 5; move 5; ret", "1; 2; 3", "", "0/4: 9"},
		{" /  / func 2 : : :; pack 2; ret", "", "", "6/1"}, {" /  / func 2 : : :; num 1; pack 2; ret", "", "", "6/2"}, {" /  / func 2 S20 : : :; move 0; unpack 2; ret", "S20(1)", "", "6/2"},
		{" /  / func 2 : b : :; me; has 2; ret", "", "@2 S20(3)", "6/2"}, {" /  / func 2 : : :; me; take 2; drop; ret", "", "", "6/2"}, {" /  / func 2 : : :; me; see 2; drop; ret", "", "", "6/2"},
		{" /  / func 2 : : :; me; seew 2; drop; ret", "", "", "6/2"}, {" /  / func 2 S20 : : :; move 0; me; keep 2; ret", "S20(1)", "", "6/3"}, {" /  / func 2 S21 : : :; move 0; me; keep 1; ret", "S21(1)", "", "6/3"},
		{" /  / func 2 : b : :; me; has 1; ret", "", "", "6/2"}, {" /  / func 2 S20 : : :; lend 0; field 0 2; drop; ret", "S20(1)", "", "6/2"}, {" /  / func 2 S20 : : :; lend 0; field 1 0; drop; ret", "S20(1)", "", "6/2"},
		{"func 2 : : :; call 0 1; ret", "", "", "6/1"}, {"func 1 : : :; ret /  / func 2 : : :; call 0 0; ret", "", "", "6/1"}, {"func 1 : : :; ret /  / func 2 : : :; call 1 0; ret", "", "", "6/1"},
		{"func 1 : : :; ret / func 2 : : :; call 0 0; ret", "", "", "0/3"}, {"func 0 : : :; ret / func 2 : : :; call 0 0; ret", "", "", "6/1"}, {"func 2 : : :; ret /  / func 2 : : :; call 0 0; ret", "", "", "0/3"},
		{" / func 1 : : :; ret / func 2 : : :; call 1 0; ret", "", "", "6/1"}, {" / func 2 : : :; call 1 1; ret; func 0 : : :; ret", "", "", "0/3"}, {" / func 2 : : :; call 1 1; ret; func 1 : : :; ret", "", "", "0/3"},
	})
}

// TestRunEnds takes results that are left on the stack, and other values that are left there, or in places, when a function ends.
func TestRunEnds(t *testing.T) {
	checkRuns(t, []runRow{
		{"func 2 : n : :; num 1; num 2; ret", "", "", "0/3: 2"},
		{"func 2 : n b : :; me; num 1; true; ret", "", "", "0/4: 1; +"},
		{"func 2 : : :; num 1; num 2; me; ret", "", "", "0/4"},
		{"func 2 : n n : :; num 1; ret", "", "", "6/2"},
		{"func 2 : n b : :; true; num 1; ret", "", "", "6/3"},
		{"func 2 : n : :; num 1; true; ret", "", "", "6/3"},
		{"func 2 : n : :; ret", "", "", "6/1"},
		{"func 2 S01 : n : :; num 1; move 0; ret", "S01(S00(1) +)", "", "6/3"},
		{"func 2 S01 : n : :; move 0; num 1; ret", "S01(S00(1) +)", "", "6/3"},
		{"func 2 S01 : : :; move 0; ret", "S01(S00(1) +)", "", "6/2"},
		{"func 2 S01 : : :; ret", "S01(S00(1) +)", "", "6/1"},
		{"func 2 S01 : : S01 :; move 0; put 1; ret", "S01(S00(1) +)", "", "6/3"},
		{"func 2 S01 : S01 : :; move 0; ret", "S01(S00(1) +)", "", "0/2: S01(S00(1) +)"},
		{"func 2 S00 : : S00 n :; copy 0; put 1; ret", "S00(1)", "", "0/3"},
		{"func 2 n : : &n !n :; lend 0; put 1; lendw 0; put 2; lend 0; lendw 0; ret", "1", "", "0/7"},
		{" /  / func 2 S20 : : :; ret", "S20(1)", "", "0/1"},
		{" /  / func 2 S20 : S20 : S20 :; num 3; pack 0; move 0; ret", "S20(1)", "", "0/4: S20(1)"},
		{" /  / func 2 S21 : : :; ret", "S21(1)", "", "6/1"},
		{" /  / func 2 S21 : S21 : :; copy 0; ret", "S21(1)", "", "6/2"},
		{" / func 2 : : :; pack 2; ret", "", "", "6/2"},
		{"func 2 : n : :; call 0 1; ret; func 0 : n : :; num 1; num 2; ret", "", "", "0/5: 2"},
		{"func 2 : : :; call 0 1; ret; func 0 : n : :; ret", "", "", "6/2"},
		{"func 2 : : :; call 0 1; ret; func 0 : n : :; true; ret", "", "", "6/3"},
		{"func 2 : n : :; num 1; call 0 1; ret; func 0 : n : :; ret", "", "", "6/3"},
		{"func 2 S01 : : :; move 0; call 0 1; ret; func 0 S01 : : :; ret", "S01(S00(1) +)", "", "6/3"},
		{"func 2 S01 : : :; move 0; call 0 1; ret; func 0 S01 : : :; move 0; ret", "S01(S00(1) +)", "", "6/4"},
		{"func 2 S01 : S01 : :; move 0; call 0 1; ret; func 0 S01 : S01 : :; move 0; ret", "S01(S00(1) +)", "", "0/5: S01(S00(1) +)"},
		{"func 2 S01 : S01 : :; call 0 1; move 0; ret; func 0 : : :; ret", "S01(S00(1) +)", "", "0/4: S01(S00(1) +)"},
	})
}

// TestRunBeyond takes code that goes beyond its last instruction, also if the last one took all of the fuel.
func TestRunBeyond(t *testing.T) {
	rows := []runRow{
		{"func 2 : : :; num 1", "", "", "6/1"},
		{"func 2 : : :; num 1; drop", "", "", "6/2"},
		{"func 2 : : :; jump 1", "", "", "6/1"},
		{"func 2 : : :; jump 39", "", "", "6/1"},
		{"func 2 : : :; jump 2; ret", "", "", "6/1"},
		{"func 2 : : :; jump 1; ret", "", "", "0/2"},
		{"func 2 b : : :; copy 0; zero 3; ret", "-", "", "6/2"},
		{"func 2 b : : :; copy 0; zero 3; ret", "+", "", "0/3"},
		{"func 2 b : : :; copy 0; zero 2; ret", "-", "", "0/3"},
		{"func 2 b : : :; copy 0; zero 0", "+", "", "6/2"},
		{"func 2 : : :; call 0 1; func 0 : : :; ret", "", "", "6/2"},
		{"func 2 : : :; call 0 1; ret; func 0 : : :; num 1", "", "", "6/2"},
		{"func 2 n : : :; lendw 0; lendw 0", "1", "", "6/2"},
		{"func 2 : : :; " + strings.Repeat("true; ", 11) + "zero 12", "", "", "6/12"},
		{"func 2 : : :; " + strings.Repeat("num 1; drop; ", 19) + "num 1; drop", "", "", "6/40"},
		{"func 2 : : :; " + strings.Repeat("num 1; drop; ", 19) + "num 1; ret", "", "", "0/40"},
	}
	checkRuns(t, rows)
	for _, row := range rows {
		a := askedOf(row.funcs, row.args, row.vaults)
		a.fuel = a.steps()
		if got := a.endText(a.check(t).out); got != row.end {
			t.Errorf("%q with just as much fuel ended with %q, not %q", row.funcs, got, row.end)
		}
	}
}

// TestRunStackMost takes as many values on a stack as there may be, and one more, by each instruction that puts some.
func TestRunStackMost(t *testing.T) {
	for do, more := range map[string][2]int{ // how many more values there are at most, and in the end
		"num 1": {1, 1}, "true": {1, 1}, "false": {1, 1}, "me": {1, 1}, "copy 0": {1, 1}, "move 0": {1, 1}, "lend 0": {1, 1}, "lendw 0": {1, 1}, "pack 2": {1, 1},
		"num 1; num 1; add": {2, 1}, "num 1; num 1; less": {2, 1}, "num 1; num 1; same": {2, 1}, "num 1; drop": {1, 0}, "num 1; true; pack 0": {2, 1}, "move 1; unpack 0": {2, 2},
		"lend 0; peek": {2, 2}, "lend 0; read": {1, 1}, "lendw 0; freeze": {1, 1}, "lend 1; field 0 0": {1, 1}, "lendw 0; num 2; write": {2, 0},
		"me; see 0": {1, 1}, "me; seew 0": {1, 1}, "me; take 0": {1, 1}, "me; has 0": {1, 1}, "call 0 1": {1, 1}, "call 1 1": {3, 3}, "call 1 2": {0, 0}, "call 1 3": {0, 0},
	} {
		for below := 9; below <= 12; below++ {
			a := askedOf("func 0 : : :; ret; func 2 : n : :; num 3; ret / func 2 n S10 : : :; ret; func 0 : n n n : :; num 1; num 1; num 1; ret; func 0 : : :; ret; func 0 n n : n n : :; move 0; move 1; ret", "5; S10(3 +)", "@2 S10(4 -)")
			a.shelf[1].Funcs[0].Code = codeOfText(strings.Repeat("num 1; ", below) + do + "; num 3; fail")
			want := impl.EndFail
			if below+max(more[0], more[1]+1) > 12 {
				want = impl.EndWrong
			}
			if out := a.check(t).out; out.Code != want {
				t.Errorf("%q behind %d values ended with %d", do, below, out.Code)
			}
		}
	}
	full := strings.Repeat("num 1; ", 12)
	checkRuns(t, []runRow{
		{"func 2 : n : :; " + full + strings.Repeat("add; ", 11) + "ret", "", "", "0/24: 12"},
		{"func 2 : n : :; " + full + "num 1; ret", "", "", "6/13"},
		{"func 2 : n : :; " + full + "call 0 1; drop; ret; func 0 : : :; " + full + "ret", "", "", "0/28: 1"},
		{"func 2 : n : :; " + full + "call 0 1; ret; func 0 : n : :; " + full + "ret", "", "", "6/26"},
		{"func 2 : n : :; " + full + "call 0 1; ret; func 0 n : n : :; " + full + "ret", "", "", "0/27: 1"},
		{"func 2 : n : :; " + full + "call 0 1; ret; func 0 n : n n : :; " + full + "ret", "", "", "6/26"},
		{"func 2 : n : :; " + full + "call 0 1; ret; func 0 n n n : n n n : :; move 0; move 1; move 2; ret", "", "", "0/18: 1"},
	})
	for _, do := range []string{"same", "less", "drop", "put 0", "write", "zero 13", "fail", "jump 13", "read", "freeze", "move 0", "peek"} {
		a := askedOf("func 2 n : : :; ret", "5", "")
		a.shelf[0].Funcs[0].Code = codeOfText(full + do + "; num 1; fail")
		a.check(t)
	}
}

// TestRunDepthTop takes as many functions within each other as there may be, and one more.
func TestRunDepthTop(t *testing.T) {
	down := "func 2 n : n : :; num 0; copy 0; less; zero 8; copy 0; num 1; sub; call 0 0; num 3; ret" // each one is within another one, as often as the argument tells
	for n, end := range []string{"0/6: 3", "0/16: 3", "0/26: 3", "0/36: 3", "0/46: 3", "0/56: 3", "5/48", "5/48", "5/48"} {
		checkRuns(t, []runRow{{down, strconv.Itoa(n), "@1 S00(4)", end}})
	}
	chain := "func 0 : : :; ret; func 0 : : :; call 0 0; ret; func 0 : : :; call 0 1; ret; func 2 : : :; call 0 2; ret / func 0 : : :; call 0 3; ret; func 2 : : :; call 1 0; ret"
	checkRuns(t, []runRow{
		{chain + " / func 2 : : :; call 1 1; ret", "", "", "5/6"},
		{strings.Replace(chain, "call 0 0", "jump 1", 1) + " / func 2 : : :; call 1 1; ret", "", "", "0/12"},
		{"func 2 : : :; call 0 0", "", "", "5/6"},
		{"func 2 : : :; call 0 1; call 0 1; call 0 1; call 0 1; call 0 1; call 0 1; call 0 1; call 0 1; ret; func 0 : : :; ret", "", "", "0/17"},
	})
	// What a call needs is asked for ahead of how deep it is.
	checkRuns(t, []runRow{
		{"func 2 n : n : :; num 0; copy 0; less; zero 7; copy 0; num 1; sub; call 0 0; ret", "4", "", "6/37"},
		{"func 2 n : n : :; num 0; copy 0; less; zero 7; copy 0; num 1; sub; call 0 0; ret", "5", "", "6/45"},
		{"func 2 n : n : :; num 0; copy 0; less; zero 8; copy 0; num 1; sub; call 0 0; call 0 1; ret", "5", "", "6/45"},
	})
}

// TestRunLastDrop takes runs with just as much fuel as they take, one less, none, as much as there may be, and one more.
func TestRunLastDrop(t *testing.T) {
	for _, row := range []keptRow{
		{"func 2 : : :; ret", "", "", "0", ""},
		{"func 2 n n : n : :; copy 0; copy 1; add; ret", "8; 3", "", "0", ""},
		{"func 2 n n : n : :; copy 0; copy 1; sub; ret", "3; 8", "", "3", ""},
		{"func 2 : : :; me; take 0; drop; me; take 0; ret", "", "@2 S00(7)", "4", "@2 S00(7)"},
		{"func 2 : : :; me; take 0; drop; ret", "", "@2 S00(7)", "0", ""},
		{"func 2 : : :; num 5; fail", "", "", "1", ""},
		{"func 2 : : :; add", "", "", "6", ""},
		{"func 2 : : :; call 0 1; ret; func 0 : : :; call 0 2; ret; func 0 : : :; num 1; drop; ret", "", "", "0", ""},
		{"func 2 : : :; call 0 0; ret", "", "", "5", ""},
		{"func 2 n : : :; num 0; copy 0; less; zero 9; copy 0; num 1; sub; put 0; jump 0; ret", "32", "", "0", ""},
	} {
		a := askedOf(row.funcs, row.args, row.vaults)
		a.fuel = 300
		took := a.steps()
		for fuel := -1; fuel <= 302; fuel++ {
			a.fuel = fuel
			want, left := row.end, fuel-took
			behind := row.behind
			switch {
			case fuel < 0 || fuel > 300:
				want, left, behind = "7", 0, ""
			case fuel < took:
				want, left, behind = "2", 0, row.vaults
			}
			out := a.check(t).out
			if strconv.Itoa(out.Code) != want || out.Fuel != left || textKeptWanted(out.Vaults) != textKeptWanted(vaultsOf(a.kinds(), textsOf(behind)...)) {
				t.Errorf("%q with %d of fuel ended with %v", row.funcs, fuel, out)
			}
		}
	}
	long := askedOf("func 2 n : : :; num 0; copy 0; less; zero 9; copy 0; num 1; sub; put 0; jump 0; ret", "32", "")
	loop := askedOf("func 2 : : :; num 1; drop; jump 0", "", "")
	long.fuel, loop.fuel = 300, 300
	if got := long.endText(long.run()); got != "0/293" {
		t.Errorf("the long run ended with %q", got)
	}
	if got := loop.endText(loop.run()); got != "2/300" || loop.steps() != 300 {
		t.Errorf("the loop ended with %q", got)
	}
	all := askedOf("func 2 : : :; num 1; drop; true; zero 0; num 1; drop; num 1; drop; num 1; drop; num 1; drop; num 1; drop; num 1; drop; ret", "", "")
	all.fuel = all.steps()
	if got := all.endText(all.run()); got != "0/17" {
		t.Errorf("the run ended with %q", got)
	}
}

// TestRunFirst takes instructions of which several ends could be told: the one that comes first is.
func TestRunFirst(t *testing.T) {
	for _, row := range []struct {
		funcs, args, vaults string
		fuel                int
		end                 string
	}{
		{"func 2 : n : :; num 1; num 2; sub; ret", "", "", 2, "2/2"},
		{"func 2 : n : :; num 1; num 2; sub; ret", "", "", 3, "3/3"},
		{"func 2 : n : :; num 1; num 0; div; num 4; fail", "", "", 9, "3/3"},
		{"func 2 : : :; num 4; fail; num 1; num 0; div", "", "", 2, "1/2: 4"},
		{"func 2 : : :; num 4; fail", "", "", 1, "2/1"},
		{"func 2 : : :; add; num 4; fail", "", "", 9, "6/1"},
		{"func 2 : : :; add", "", "", 0, "2/0"},
		{"func 2 : : :; me; take 0; add", "", "", 9, "4/2"},
		{"func 2 : : :; me; take 0; add", "", "", 1, "2/1"},
		{"func 2 : : :; me; take 0; add", "", "@2 S00(1)", 9, "6/3"},
		{"func 2 : : :; call 0 0", "", "", 6, "5/6"},
		{"func 2 : : :; call 0 0", "", "", 5, "2/5"},
		{"func 2 : : :; ret", "", "", 0, "2/0"},
		{"func 2 : : :; ret", "", "", 1, "0/1"},
		{"func 2 : : :; num 1; ret; num 4; fail", "", "", 9, "0/2"},
		{"func 2 : : :; num 1; pack 0; me; keep 0; num 0; num 1; sub", "", "@2 S00(1)", 9, "4/4"},
		// What is asked for goes wrong ahead of what is there.
		{"func 2 : : :; me; keep 0; ret", "", "@2 S00(1)", 9, "6/2"},
		{"func 2 : : :; num 1; me; keep 0; ret", "", "@2 S00(1)", 9, "6/3"},
		{"func 2 : : :; me; take 2; ret", "", "", 9, "6/2"},
		{"func 2 : : :; num 2; see 0; ret", "", "", 9, "6/2"},
	} {
		a := askedOf(row.funcs, row.args, row.vaults)
		a.fuel = row.fuel
		if got := a.endText(a.check(t).out); got != row.end {
			t.Errorf("%q with %d of fuel ended with %q, not %q", row.funcs, row.fuel, got, row.end)
		}
	}
}

// TestRunNotGood takes shelves that have their shape and are not good: what Takes says does not matter in a run, nor what is lent, nor what does not run.
func TestRunNotGood(t *testing.T) {
	rows := []keptRow{
		{"func 2 : S00 : :; me; take 0; ret", "", "@2 S00(1)", "0/3: S00(1)", ""},
		{"func 2 : S00 : : 1; me; take 0; ret", "", "@2 S00(1)", "0/3: S00(1)", ""},
		{"func 2 : n : :; me; see 0; field 0 0; read; ret", "", "@2 S00(1)", "0/5: 1", "@2 S00(1)"},
		{"func 2 : : : 1; me; seew 0; num 4; pack 0; write; ret", "", "@2 S00(1)", "0/6", "@2 S00(4)"},
		{"func 2 : S00 : :; call 0 1; ret; func 0 : S00 : : 0; me; take 0; ret", "", "@2 S00(1)", "0/5: S00(1)", ""},
		{"func 2 : n : : 0; me; seew 0; me; seew 0; field 0 0; read; ret", "", "@2 S00(1)", "0/7: 1", "@2 S00(1)"},
		{"func 2 n : n n : :; lendw 0; copy 0; move 0; ret", "4", "", "0/4: 4; 4", ""},
		{"func 2 n : n : :; lendw 0; lend 0; read; ret", "4", "", "0/4: 4", ""},
		{"func 2 n : n : :; lend 0; num 5; put 0; drop; move 0; ret", "4", "", "0/6: 5", ""},
		{"func 2 n : n : :; move 0; ret; func 2 : : :; num 5", "4", "", "0/2: 4", ""},
		{"func 2 b : n : :; copy 0; zero 4; num 5; jump 5; me; ret", "+", "", "0/5: 5", ""},
		{"func 2 b : n : :; copy 0; zero 4; num 5; jump 5; me; ret", "-", "", "6/4", ""},
		{"func 2 : : :; call 0 1; drop; ret; func 0 : &n : n :; num 4; put 0; lend 0; ret", "", "", "0/7", ""},
	}
	checkVaults(t, rows)
	for _, row := range rows {
		if shelf := runShelf(row.funcs); !impl.ShelfShape(shelf) || impl.ShelfGood(shelf) {
			t.Errorf("the shelf of %q has its shape: %v, and is good: %v", row.funcs, impl.ShelfShape(shelf), impl.ShelfGood(shelf))
		}
	}
	for _, row := range rows {
		a, b := askedOf(row.funcs, row.args, row.vaults), askedOf(row.funcs, row.args, row.vaults)
		b.shelf[0].Funcs[0].Takes = []int{0, 1, 2}
		if !sameOutcome(a.run(), b.run()) {
			t.Errorf("%q hangs on what it takes", row.funcs)
		}
	}
}

// TestRunApart takes references to write that lead to what others lead to, or to parts of it, or not.
func TestRunApart(t *testing.T) {
	for _, c := range []struct {
		funcs, args, vaults string
		apart               bool
	}{
		{"func 2 : : :; ret", "", "", true},
		{"func 2 n : : :; lend 0; lend 0; ret", "1", "", true},
		{"func 2 n : : :; lendw 0; ret", "1", "", true},
		{"func 2 n : : :; lendw 0; lendw 0; ret", "1", "", false},
		{"func 2 n : : :; lendw 0; lend 0; ret", "1", "", false},
		{"func 2 n : : :; lend 0; lendw 0; ret", "1", "", false},
		{"func 2 n : : :; lend 0; lendw 0", "1", "", false},
		{"func 2 n : : :; lend 0; lendw 0; add", "1", "", false},
		{"func 2 n : : :; lend 0; lendw 0; freeze; ret", "1", "", false},
		{"func 2 n : : :; lendw 0; freeze; lendw 0; freeze; ret", "1", "", false},
		{"func 2 n : : :; lendw 0; drop; lendw 0; ret", "1", "", true},
		{"func 2 n n : : :; lendw 0; lendw 1; lend 2; ret", "1; 2", "", true},
		{"func 2 n n n : : :; lendw 0; lendw 1; lend 2; ret", "1; 2; 3", "", true},
		{"func 2 n : : &n :; lend 0; put 1; lendw 0; ret", "1", "", false},
		{"func 2 n : : !n :; lendw 0; put 1; lend 0; ret", "1", "", false},
		{"func 2 n : : !n &n :; lendw 0; put 1; lend 0; put 2; ret", "1", "", false},
		{"func 2 S00 : : :; lendw 0; lend 0; field 0 0; ret", "S00(1)", "", false},
		{"func 2 S00 : : &n :; lend 0; field 0 0; put 1; lendw 0; ret", "S00(1)", "", false},
		{"func 2 S00 : : !n :; lendw 0; field 0 0; put 1; lend 0; ret", "S00(1)", "", false},
		{"func 2 S00 : : &n :; lend 0; field 0 0; put 1; lend 0; ret", "S00(1)", "", true},
		{" / func 2 S10 : : !n !b :; lendw 0; field 0 0; put 1; lendw 0; drop; ret", "S10(1 +)", "", false},
		{" / func 2 S10 : : !b :; lendw 0; field 1 0; put 1; ret", "S10(1 +)", "", true},
		{"func 2 o : : :; copy 0; seew 0; copy 0; see 0; ret", "@1", "@1 S00(1)", false},
		{"func 2 o : : :; copy 0; see 0; copy 0; see 0; ret", "@1", "@1 S00(1)", true},
		{"func 2 o : : :; copy 0; seew 0; me; seew 0; ret", "@1", "@1 S00(1); @2 S00(1)", true},
		{"func 2 o : : :; copy 0; seew 0; copy 0; seew 1; ret", "@1", "@1 S00(1); @1 S01(S00(2) +)", true},
		{"func 2 o : : !S00 :; copy 0; seew 1; field 0 1; put 1; copy 0; seew 0; ret", "@1", "@1 S00(1); @1 S01(S00(2) +)", true},
		{"func 2 o : : !S00 :; copy 0; seew 1; field 0 1; put 1; copy 0; see 1; field 1 1; ret", "@1", "@1 S00(1); @1 S01(S00(2) +)", false},
		{"func 2 o o o : : :; copy 1; seew 0; lendw 0; lendw 1; lendw 2; ret", "@0; @0; @0", "@0 S00(1)", true},
		{"func 2 n : : :; lendw 0; call 0 1; ret; func 0 !n : : n :; num 1; put 1; lendw 1; ret", "4", "", true},
		{"func 2 n : : :; lendw 0; call 0 1; ret; func 0 !n : : n :; lendw 0; ret", "4", "", true},
		{"func 2 n : : :; lendw 0; lend 0; call 0 1; ret; func 0 !n &n : : :; ret", "4", "", false},
		{"func 2 n : : :; lend 0; lendw 0; call 0 1; drop; ret; func 0 !n : : :; ret", "4", "", false},
		{"func 2 n n : : :; lend 0; lendw 1; call 0 1; drop; ret; func 0 !n : : :; ret", "4; 5", "", true},
		{"func 2 n : : :; lend 0; call 0 1; drop; ret; func 0 &n : : n :; num 3; put 1; lendw 1; ret", "4", "", true},
		{"func 2 n : : :; lendw 0; call 0 1; lend 0; drop; ret; func 0 !n : !n : :; move 0; ret", "4", "", false},
		{"func 2 : : :; call 0 1; call 0 1; ret; func 0 : !n : n :; num 3; put 0; lendw 0; ret", "", "", false}, // both lead to the same place, of a function that is gone
		{"func 2 n : : :; lend 0; lendw 0; fail", "4", "", false},
		{"func 2 n : : :; lend 0; num 1; num 2; sub; lendw 0", "4", "", true},
	} {
		a := askedOf(c.funcs, c.args, c.vaults)
		if got := a.check(t).apart; got != c.apart {
			t.Errorf("CallApart of %q told %v", c.funcs, got)
		}
		for a.fuel = range a.steps() {
			a.check(t)
		}
	}
}

// kindsRun are kinds of which there are good records for runs, so that much of what functions do can be.
func kindsRun() [][][]impl.Record {
	return [][][]impl.Record{
		stand{shelf: runShelf("")}.kinds(),
		{{rec(12, "n"), rec(15, "n", "b"), rec(12, "S00")}, {rec(8, "S02", "n"), rec(10, "n", "S01"), rec(4)}, {rec(12, "S00"), rec(3, "S01")}},
		{{rec(15, "n"), rec(15, "S00", "n"), rec(12, "S01", "S00")}},
		{{rec(12, "o", "n"), rec(14, "n")}, {rec(12, "S00", "S01"), rec(15, "b")}},
		{{rec(12, "n"), rec(12, "S00"), rec(12, "S01", "S00")}, {rec(12, "S02", "S01"), rec(12, "S10", "b"), rec(13, "n")}, {rec(12, "S11")}},
	}
}

// someHeads returns a shelf of kinds whose functions have heads, by chance, and no code but `ret`; the first two of each module have no references, and can be run.
func someHeads(r *rand.Rand, kinds [][]impl.Record) []impl.Module {
	shelf := make([]impl.Module, len(kinds))
	for m, records := range kinds {
		shelf[m].Records, shelf[m].Friends = records, someAscending(r, m+1, len(kinds))
		types := stand{shelf: shelf[:m+1]}.typesOf()
		plain := types[:len(types)/3]
		for f := range 4 {
			from := map[bool][]string{true: plain, false: types}[f < 2]
			fn := impl.Func{Seen: 2, Args: someOf(r, 3, from), Rets: someOf(r, 2, from), Takes: someAscending(r, 0, len(records)), Code: codeOfText("ret")}
			if f >= 2 {
				fn.Seen = r.Intn(3)
			}
			if r.Intn(2) == 0 {
				fn.Takes = []int{0, 1, 2}[:len(records)]
			}
			if f == 3 {
				fn.Args = append(fn.Args[:len(fn.Args)/2], pick(r, types[len(types)/3:]))
				fn.Rets = append(fn.Rets[:len(fn.Rets)/2], fn.Args[len(fn.Args)-1])
			}
			fn.Locals = someOf(r, 6-len(fn.Args), types)
			shelf[m].Funcs = append(shelf[m].Funcs, fn)
		}
	}
	return shelf
}

// A writer writes the code of a function, at the shape that is behind it; if it is loose, nothing is lent for it.
type writer struct {
	stand
	r     *rand.Rand
	loose bool
	code  []impl.Ins
}

// do puts an instruction behind the code, if it can be there.
func (w *writer) do(i impl.Ins) bool {
	if w.loose {
		for _, list := range [][]impl.Mark{w.s.Stack, w.s.Places} {
			for k := range list {
				list[k].From = nil
			}
		}
	}
	s, bad := w.stepWanted(i)
	if bad == 0 && i.Op != "ret" {
		w.s = s
	}
	if bad == 0 || w.loose && bad == impl.BadEnd {
		w.code = append(w.code, i)
		return true
	}
	return false
}

// some puts an instruction behind the code, by chance, if it can be there.
func (w *writer) some() {
	words := strings.Fields("num num num num true true me add sub mul div mod less same and and or or not copy copy move put put put drop pack pack unpack lend lend lendw lendw field field field field read peek write write write freeze keep take has see seew seew call call call call")
	i := ins(pick(w.r, words), w.r.Intn(6), w.r.Intn(4))
	switch row := slices.IndexFunc(wordsOfTable(), func(row wordOfTable) bool { return row.op == i.Op }); {
	case i.Op == "num":
		i = ins("num", pick(w.r, []int{0, 1, 2, 5, 1000, 1000000}))
	case i.Op == "call":
		i.A %= w.m + 1
	default:
		i.A %= wordsOfTable()[row].a + 1
		i.B %= wordsOfTable()[row].b + 1
	}
	w.do(i)
	if w.loose && strings.HasPrefix(i.Op, "lend") && isRef(w.top(0).Type) && w.do(ins("move", i.A)) {
		w.clear()
		w.do(ins(pick(w.r, []string{"read", "peek", "freeze", "drop"})))
	}
	top := w.top(0).Type
	if strings.HasPrefix(top, "!") && w.r.Intn(2) == 0 && w.make(top[1:]) {
		w.do(ins("write"))
	}
	if i.Op == "pack" && top == w.ownKind(i.A) && w.r.Intn(2) == 0 && w.do(ins("me")) {
		w.do(ins("keep", i.A))
	}
	if w.loose && w.r.Intn(6) == 0 {
		w.do(ins(pick(w.r, []string{"lend", "lendw"}), i.A%6))
	}
	if w.top(0).Type == "b" && w.r.Intn(3) == 0 {
		w.do(ins("zero", len(w.code)+3))
		w.do(ins("me"))
		w.do(ins("drop"))
	}
}

// clear takes the last value off the stack by what can be, and what comes of it.
func (w *writer) clear() {
	for down := len(w.s.Stack) - 1; len(w.s.Stack) > down; {
		done := w.do(ins("drop"))
		for k := 0; k < 3 && !done; k++ {
			done = w.do(ins("unpack", k))
		}
		for k := 0; k < len(w.s.Places) && !done; k++ {
			done = w.s.Places[k].Type == "" && w.do(ins("put", k))
		}
		if !done {
			return
		}
	}
}

// make puts a value of a type on the stack, by what can be.
func (w *writer) make(t string) bool {
	if word, ok := map[string]string{"n": "num", "b": "false", "o": "me"}[t]; ok {
		return w.do(ins(word))
	}
	for k, m := range w.s.Places {
		if m.Type == t && (w.do(ins("move", k)) || w.do(ins("copy", k))) {
			return true
		}
	}
	for k, record := range w.shelf[w.m].Records {
		if t == w.ownKind(k) {
			return !slices.ContainsFunc(record.Fields, func(field string) bool { return !w.make(field) }) && w.do(ins("pack", k))
		}
	}
	return false
}

// write writes code that mostly ends with its results, by chance.
func (w *writer) write() []impl.Ins {
	w.s, _ = firstWanted(w.shelf, w.m, w.f)
	for range w.r.Intn(90) {
		if len(w.code) < 24 {
			w.some()
		}
	}
	return w.finish()
}

// finish mostly ends code with its results.
func (w *writer) finish() []impl.Ins {
	for range len(w.s.Stack) {
		w.clear()
	}
	for _, t := range w.fn().Rets {
		w.make(t)
	}
	for k, m := range w.s.Places {
		if m.Type != "" && !w.can(m.Type, 2) && w.do(ins("move", k)) {
			w.clear()
		}
	}
	if !w.do(ins("ret")) {
		w.code = append(w.code, ins("num", 7), ins("fail"))
	}
	if len(w.code) > 40 {
		return append(w.code[:38:38], ins("num", 8), ins("fail"))
	}
	return w.code
}

// A runSort is how functions are written for runs: good, loose, or with instructions that are changed.
type runSort int

const (
	sortGood runSort = iota
	sortLoose
	sortSpoilt
)

// someRunShelf is a shelf of a sort, by chance.
func someRunShelf(r *rand.Rand, sort runSort) []impl.Module {
	shelf := someHeads(r, pick(r, kindsRun()))
	for m := range shelf {
		for f := range shelf[m].Funcs {
			w := writer{stand: stand{shelf: shelf, m: m, f: f}, r: r, loose: sort == sortLoose}
			fn := &shelf[m].Funcs[f]
			if fn.Code = w.write(); sort != sortSpoilt {
				continue
			}
			for range r.Intn(3) {
				fn.Code[r.Intn(len(fn.Code))] = pick(r, pick(r, shelf[m].Funcs[:f+1]).Code)
			}
			if r.Intn(6) == 0 {
				fn.Code = fn.Code[:1+r.Intn(len(fn.Code))]
			}
		}
	}
	return shelf
}

// someRuns are runs of a sort, by chance, always the same ones: two of each function that can be run.
func someRuns(seed int64, many int, sort runSort) []asked {
	r := rand.New(rand.NewSource(seed))
	runs := []asked{}
	for range many {
		shelf := someRunShelf(r, sort)
		kinds := stand{shelf: shelf}.kinds()
		for m := range shelf {
			for f := range 4 {
				a := asked{shelf: shelf, owner: r.Intn(4), m: m, f: f % 2, fuel: pick(r, []int{300, 300, 300, r.Intn(50)})}
				for _, t := range shelf[m].Funcs[f%2].Args {
					a.args = append(a.args, someValue(r, kinds, t))
				}
				seldom := 2 + r.Intn(4)
				a.vaults = slices.DeleteFunc(allOf(r, kinds), func(impl.Kept) bool { return r.Intn(seldom) == 0 })
				runs = append(runs, a)
			}
		}
	}
	return runs
}

// TestRunMany takes runs by chance, which end in each way, and do each instruction.
func TestRunMany(t *testing.T) {
	did := map[string]int{}
	for sort, least := range [][]int{{500, 200, 100, 50, 80, 20, 0}, {300, 200, 100, 50, 50, 20, 200}, {200, 100, 80, 30, 50, 20, 500}} {
		ends := make([]int, 8)
		long, apart := tally{}, tally{}
		for _, a := range someRuns(int64(901+sort), 240, runSort(sort)) {
			told := a.check(t)
			ends[told.out.Code]++
			long.count(len(told.words) > 20)
			apart.count(told.apart)
			for _, word := range told.words {
				did[word]++
			}
		}
		for code, n := range least {
			if ends[code] < n {
				t.Errorf("only %d runs of the sort %d ended with %d", ends[code], sort, code)
			}
		}
		long.enough(t, 300, 300)
		apart.enough(t, 300, []int{0, 20, 2}[sort])
	}
	for _, w := range wordsOfTable() {
		if did[w.op] < 20 && w.op != "jump" {
			t.Errorf("the instruction %s was done %d times alone", w.op, did[w.op])
		}
	}
}

// checkCannot holds that a run cannot begin.
func checkCannot(t *testing.T, name string, a asked) {
	t.Helper()
	if a.okWanted() {
		t.Errorf("%s: the document's words let it begin", name)
	}
	if a.ok() || !sameOutcome(a.run(), impl.Outcome{Code: 7}) || a.steps() != 0 || len(a.words()) != 0 || !a.apart() {
		t.Errorf("%s: told %v %v %d %q %v", name, a.ok(), a.run(), a.steps(), a.words(), a.apart())
	}
}

// askedGood is a run that does something with all that it has, and is done.
func askedGood() asked {
	return askedOf("func 2 n S01 : n S01 S00 : S00 : 0; me; take 0; put 2; copy 0; pack 0; me; keep 0; copy 0; move 1; copy 2; ret; func 0 : : :; ret; func 1 : : :; ret; func 2 : : :; lend 0", "5; S01(S00(4) +)", "@1 S00(7); @2 S00(8)")
}

// spoilsOfRun are changes behind which askedGood cannot begin, each for one thing alone that is as it should not be.
func spoilsOfRun() map[string]func(a *asked) {
	spoils := map[string]func(a *asked){}
	for _, n := range []int{-1, 3, 4, math.MaxInt, math.MinInt} {
		spoils["a module "+strconv.Itoa(n)] = func(a *asked) { a.m = n }
	}
	for _, n := range []int{-1, 4, 5, math.MaxInt, math.MinInt} {
		spoils["a function "+strconv.Itoa(n)] = func(a *asked) { a.f = n; a.args = nil }
		spoils["an owner "+strconv.Itoa(n)] = func(a *asked) { a.owner = n }
	}
	for _, n := range []int{-1, 301, 302, math.MaxInt, math.MinInt} {
		spoils["fuel "+strconv.Itoa(n)] = func(a *asked) { a.fuel = n }
	}
	for _, n := range []int{0, 1} {
		spoils["the sight "+strconv.Itoa(n)] = func(a *asked) { a.shelf[0].Funcs[0].Seen = n }
		spoils["a function with the sight "+strconv.Itoa(n)] = func(a *asked) { a.f = 1 + n; a.args = nil }
	}
	for _, t := range []string{"&n", "!n", "&S01", "!S01", "&S00"} {
		spoils["a result "+t] = func(a *asked) { a.shelf[0].Funcs[0].Rets[0] = t }
		spoils["a last result "+t] = func(a *asked) { a.shelf[0].Funcs[0].Rets[2] = t }
		spoils["an argument "+t] = func(a *asked) {
			a.shelf[0].Funcs[0].Args[0] = t
			a.args[0] = impl.Value{Type: t, Path: []int{0, 0, 0}}
		}
		spoils["an argument of the type "+t] = func(a *asked) { a.shelf[0].Funcs[0].Args[0] = t; a.args[0].Type = t }
		spoils["an argument for "+t] = func(a *asked) { a.shelf[0].Funcs[0].Args[0] = t }
	}
	for name, args := range map[string][]impl.Value{
		"no arguments": nil, "one too few": {num(5)}, "one too many": {num(5), val("S01", val("S00", num(4)), truth(1)), num(6)}, "three too many": {num(5), val("S01", val("S00", num(4)), truth(1)), {}, {}, {}},
		"in another order": {val("S01", val("S00", num(4)), truth(1)), num(5)}, "of another type": {truth(1), val("S01", val("S00", num(4)), truth(1))}, "of another kind": {num(5), val("S00", num(4))},
		"that are nothing": {{}, {}}, "a number above": {num(1000001), val("S01", val("S00", num(4)), truth(1))}, "a number below": {num(-1), val("S01", val("S00", num(4)), truth(1))},
		"a part that is none": {num(5), val("S01", val("S00", num(4)), truth(2))}, "a part of another type": {num(5), val("S01", val("S00", truth(1)), truth(1))}, "a part too few": {num(5), val("S01", val("S00", num(4)))},
		"a path": {{Type: "n", N: 5, Path: []int{0}}, val("S01", val("S00", num(4)), truth(1))}, "parts of a number": {{Type: "n", N: 5, Parts: []impl.Value{num(1)}}, val("S01", val("S00", num(4)), truth(1))},
	} {
		spoils["arguments: "+name] = func(a *asked) { a.args = args }
	}
	for name, list := range map[string][]string{
		"another order": {"@2 S00(8)", "@1 S00(7)"}, "twice": {"@1 S00(7)", "@1 S00(7)"}, "an owner": {"@4 S00(7)"},
	} {
		spoils["vaults: "+name] = func(a *asked) { a.vaults = vaultsOf(a.kinds(), list...) }
	}
	for name, v := range map[string]impl.Value{"a number": num(1), "nothing": {}, "what cannot be kept": val("S02", num(1)), "no kind": val("S03", num(1)), "no number": val("S00", num(-1)), "no part": val("S00"), "a reference": {Type: "&S00", Path: []int{0, 0, 0}}} {
		spoils["vaults with "+name] = func(a *asked) { a.vaults = []impl.Kept{{Owner: 0, Of: v}} }
		spoils["vaults that end with "+name] = func(a *asked) { a.vaults = append(a.vaults, impl.Kept{Owner: 3, Of: v}) }
	}
	return spoils
}

// runsNone are what cannot begin, under their names.
func runsNone() map[string]asked {
	none := map[string]asked{"nothing": {}, "an empty shelf": {shelf: []impl.Module{}, fuel: 9}, "an empty module": {shelf: []impl.Module{{}}, fuel: 9}}
	for name, spoil := range spoilsOfRun() {
		a := askedGood()
		spoil(&a)
		none[name] = a
	}
	for name, shelf := range shelvesNoShape() {
		none["a shelf: "+name] = asked{shelf: shelf, fuel: 9}
	}
	return none
}

// TestRunNone takes what cannot begin, also for two reasons.
func TestRunNone(t *testing.T) {
	if got := askedGood().check(t).out; askedGood().endText(got) != "0/11: 5; S01(S00(4) +); S00(8)" {
		t.Fatalf("the run ended with %v", got)
	}
	for name, a := range runsNone() {
		checkCannot(t, name, a)
	}
	spoils := spoilsOfRun()
	for name, spoil := range spoils {
		for _, more := range spoils {
			b := askedGood()
			if more(&b); len(b.args) > 0 {
				spoil(&b)
			}
			if b.ok() {
				t.Errorf("%s: with another fault it can begin", name)
			}
		}
	}
}

// shelvesNoShape are shelves without the shape, whose first function could be run.
func shelvesNoShape() map[string][]impl.Module {
	shelves := map[string][]impl.Module{}
	for name, spoil := range spoilsOfShape() {
		shelves[name] = spoil(shelfVerified())
	}
	for name, spoil := range map[string]func(shelf []impl.Module) []impl.Module{
		"a module too many": func(shelf []impl.Module) []impl.Module { return append(shelf, impl.Module{}) },
		"a function too many": func(shelf []impl.Module) []impl.Module {
			shelf[0].Funcs = append(shelf[0].Funcs, small(), small(), small(), small())
			return shelf
		},
		"no code": func(shelf []impl.Module) []impl.Module { shelf[2].Funcs = []impl.Func{{Seen: 2}}; return shelf },
		"a word that is none": func(shelf []impl.Module) []impl.Module {
			shelf[0].Funcs[0].Code = append(shelf[0].Funcs[0].Code, ins("x"))
			return shelf
		},
		"a call of a later one": func(shelf []impl.Module) []impl.Module {
			shelf[0].Funcs[0].Code = append(shelf[0].Funcs[0].Code, ins("call", 1, 0))
			return shelf
		},
		"a record that is none":  func(shelf []impl.Module) []impl.Module { shelf[1].Records[0].Able = 16; return shelf },
		"a friend that is none":  func(shelf []impl.Module) []impl.Module { shelf[2].Friends = []int{2}; return shelf },
		"a sight that is none":   func(shelf []impl.Module) []impl.Module { shelf[0].Funcs[0].Seen = 3; return shelf },
		"a place that is none":   func(shelf []impl.Module) []impl.Module { shelf[0].Funcs[0].Locals = []string{"S30"}; return shelf },
		"a place of a later one": func(shelf []impl.Module) []impl.Module { shelf[0].Funcs[0].Locals = []string{"S10"}; return shelf },
	} {
		shelves[name] = spoil(runShelf("func 2 : : :; ret"))
	}
	return shelves
}

// cloneAsked returns a copy of what a run is asked with, whose lists have room behind them that is empty.
func cloneAsked(a asked) asked {
	a.shelf, a.vaults = cloneShelf(a.shelf), cloneKept(a.vaults)
	args := make([]impl.Value, 0, len(a.args)+2)
	for _, arg := range a.args {
		args = append(args, cloneValue(arg))
	}
	a.args = args
	return a
}

// stays holds that nothing was written into what a run was asked with.
func (a asked) stays(t *testing.T, name string, is asked) {
	t.Helper()
	same := sameShelf(a.shelf, is.shelf) && isRoomy(a.shelf) && sameKept(a.vaults, is.vaults) && isRoomyKept(a.vaults) && sameValues(a.args, is.args)
	for _, v := range a.args[len(a.args):cap(a.args)] {
		same = same && reflect.DeepEqual(v, impl.Value{})
	}
	if !same || slices.ContainsFunc(a.args, func(v impl.Value) bool { return !isRoomyValue(v) }) {
		t.Fatalf("%s changed %v to %v", name, is, a)
	}
}

// runsChanging are runs that change, copy, and move what they were given, and some by chance.
func runsChanging() []asked {
	runs := []asked{askedGood()}
	for _, row := range [][3]string{
		{" / func 2 S10 : S10 S10 S10 : S10 :; copy 0; put 1; lendw 0; field 0 0; num 9; write; copy 0; copy 1; copy 0; ret", "S10(1 +)", "@1 S10(1 +)"},
		{"func 2 S00 o : S00 S00 : :; copy 0; copy 1; keep 0; copy 1; seew 0; copy 0; write; copy 0; copy 1; see 0; read; ret", "S00(1); @3", "@1 S00(1)"},
		{"func 2 o : S01 : :; copy 0; seew 1; field 0 1; num 9; pack 0; write; copy 0; take 1; ret", "@1", "@1 S01(S00(1) +); @2 S00(5)"},
		{"func 2 o : n : :; copy 0; seew 1; field 0 1; num 9; pack 0; write; num 4; fail", "@1", "@1 S01(S00(1) +); @2 S00(5)"},
		{"func 2 o S01 : S00 : S00 :; copy 0; see 1; field 0 1; peek; put 2; drop; move 1; unpack 1; drop; drop; copy 0; take 1; unpack 1; drop; ret", "@1; S01(S00(8) -)", "@1 S01(S00(1) +); @2 S00(5)"},
		{" / func 2 S01 o : : :; move 0; num 3; me; pack 1; copy 1; keep 1; copy 1; seew 1; field 1 1; num 7; write; ret", "S01(S00(8) -); @1", "@1 S01(S00(1) +); @2 S11(S01(S00(5) +) 2 @3)"},
		{" / func 2 : S11 : :; me; seew 1; field 1 1; num 7; write; me; take 1; ret", "", "@1 S01(S00(1) +); @2 S11(S01(S00(5) +) 2 @3)"},
		{" / func 2 S01 : S01 n : S11 :; me; take 1; put 1; move 1; unpack 1; drop; drop; move 0; num 5; me; pack 1; me; keep 1; num 6; ret", "S01(S00(8) -)", "@2 S11(S01(S00(5) +) 2 @3)"},
		{"func 2 S00 : S00 S00 : :; copy 0; call 0 1; ret; func 0 S00 : S00 S00 : :; copy 0; copy 0; ret", "S00(8)", ""},
		{" / func 2 S11 : S11 : :; lendw 0; call 1 1; move 0; ret; func 0 !S11 : : :; move 0; field 2 1; me; write; ret", "", ""},
	} {
		a := askedOf(row[0], "", row[2])
		for _, text := range textsOf(row[1]) {
			a.args = append(a.args, read(a.kinds(), text))
		}
		runs = append(runs, a)
	}
	return slices.Concat(runs, someRuns(905, 40, sortGood), someRuns(906, 20, sortLoose), someRuns(907, 20, sortSpoilt))
}

func TestRunKeepsArguments(t *testing.T) {
	for _, is := range runsChanging() {
		a := cloneAsked(is)
		a.ok()
		a.stays(t, "CallOk", is)
		a.run()
		a.stays(t, "CallRun", is)
		a.steps()
		a.stays(t, "CallSteps", is)
		a.words()
		a.stays(t, "CallWords", is)
		a.apart()
		a.stays(t, "CallApart", is)
	}
}

// TestRunResultsApart changes results, and holds that neither what the run was asked with nor other results are changed.
func TestRunResultsApart(t *testing.T) {
	told := tally{}
	for _, is := range runsChanging() {
		a := cloneAsked(is)
		want := a.wanted().out
		out := a.run()
		for k := range out.Rets {
			_ = append(out.Rets[:k], impl.Value{Type: "x"})
			spoilValue(&out.Rets[k])
			if !sameKept(out.Vaults, want.Vaults) || !sameValues(out.Rets[k+1:], want.Rets[k+1:]) {
				t.Fatalf("a change of a result of %v changed %v", is, out)
			}
		}
		a.stays(t, "a change of results", is)
		other := a.run()
		for k := range out.Vaults {
			spoilValue(&out.Vaults[k].Of)
			if !sameKept(out.Vaults[k+1:], want.Vaults[k+1:]) {
				t.Fatalf("a change in vaults of %v changed %v", is, out)
			}
		}
		spoilKept(out.Vaults)
		a.stays(t, "a change of vaults", is)
		words := a.words()
		for k := range words {
			words[k] = "x"
		}
		if _ = append(words[:0], "y"); !sameOutcome(other, want) || !sameOutcome(a.run(), want) || slices.Contains(a.words(), "x") {
			t.Fatalf("a change of results of %v goes through to %v", is, other)
		}
		told.count(want.Code == 0 && len(want.Rets) > 0)
	}
	told.enough(t, 30, 100)
}

// runsPromised are runs of all sorts, some of which cannot begin.
func runsPromised(seed int64) []asked {
	runs := slices.Concat(runsChanging(), someRuns(seed, 40, sortGood), someRuns(seed+1, 30, sortLoose), someRuns(seed+2, 30, sortSpoilt))
	r := rand.New(rand.NewSource(seed))
	for k := range runs {
		a := &runs[k]
		switch r.Intn(20) {
		case 0:
			a.fuel = pick(r, []int{-1, 301, 1000})
		case 1:
			a.owner = pick(r, []int{-1, 4})
		case 2:
			a.f = pick(r, []int{-1, 2, 3, 4})
		case 3:
			a.m = pick(r, []int{-1, 0, 1, 2, 3})
		case 4:
			a.args = append(slices.Clone(a.args), num(1))
		case 5:
			a.vaults = spoiltVaults(r, cloneKept(a.vaults))
		case 6:
			a.shelf = cloneShelf(a.shelf)
			spoiltShelf(r, a.shelf)
		}
	}
	return runs
}

func TestPromise42(t *testing.T) {
	c := tally{}
	for _, a := range runsPromised(421) {
		ok := a.ok()
		c.count(ok)
		if out := a.run(); ok != (out.Code != impl.EndNone) {
			t.Errorf("CallOk of %v told %v, and CallRun %v", a, ok, out)
		}
	}
	c.enough(t, 500, 100)
}

func TestPromise43(t *testing.T) {
	good, done, began := tally{}, tally{}, tally{}
	for _, a := range slices.Concat(runsPromised(431), someRuns(434, 100, sortGood)) {
		out := a.run()
		began.count(out.Code != impl.EndNone)
		good.count(impl.ShelfGood(a.shelf))
		switch {
		case impl.ShelfGood(a.shelf) && out.Code == impl.EndWrong:
			t.Errorf("the shelf is good, and %v goes wrong", a)
		case out.Code == impl.EndNone:
			continue
		}
		done.count(out.Code == impl.EndDone)
		if out.Code != impl.EndDone {
			if !sameKept(out.Vaults, a.vaults) || len(out.Rets) > 0 {
				t.Errorf("%v is not done, and left %v", a, out)
			}
			continue
		}
		isOf := func(v impl.Value, t string) bool { return v.Type == t && impl.ValueOk(a.kinds(), v) }
		if !impl.VaultsOk(a.kinds(), out.Vaults) || !slices.EqualFunc(out.Rets, a.shelf[a.m].Funcs[a.f].Rets, isOf) {
			t.Errorf("%v is done, and left %v", a, out)
		}
	}
	good.enough(t, 800, 300)
	done.enough(t, 500, 500)
	began.enough(t, 500, 100)
}

func TestPromise44(t *testing.T) {
	c, left := tally{}, tally{}
	for _, a := range runsPromised(441) {
		if c.count(a.ok()); !a.ok() {
			continue
		}
		out := a.run()
		left.count(out.Fuel > 0)
		if a.steps()+out.Fuel != a.fuel {
			t.Errorf("%v did %d instructions, and %d of the fuel are left", a, a.steps(), out.Fuel)
		}
	}
	c.enough(t, 500, 100)
	left.enough(t, 300, 50)
}

func TestPromise45(t *testing.T) {
	words := impl.InsWords()
	c, longer := tally{}, tally{}
	for _, a := range runsPromised(451) {
		c.count(a.ok())
		if a.ok() && a.fuel%3 == 0 {
			a.fuel = a.steps() - a.fuel/3%3 // so that it often has no fuel
		}
		did := a.words()
		if len(did) != a.steps() || slices.ContainsFunc(did, func(word string) bool { return !slices.Contains(words, word) }) {
			t.Errorf("%v did %d instructions, which are %q", a, a.steps(), did)
		}
		if a.fuel >= 300 || !a.ok() {
			continue
		}
		a.fuel++
		more := a.words()
		if longer.count(len(more) > len(did)); len(more) < len(did) || !slices.Equal(more[:len(did)], did) || len(more) > len(did)+1 {
			t.Errorf("%v with more fuel did %q, and not %q", a, more, did)
		}
	}
	c.enough(t, 500, 100)
	longer.enough(t, 100, 100)
}

func TestPromise46(t *testing.T) {
	good, writes := tally{}, tally{}
	for _, a := range slices.Concat(runsPromised(461), someRuns(464, 150, sortGood)) {
		isGood := impl.ShelfGood(a.shelf)
		good.count(isGood)
		words := a.words()
		if writes.count(slices.Contains(words, "lendw") || slices.Contains(words, "seew")); isGood && !a.apart() {
			t.Errorf("the shelf is good, and references of %v are not apart", a)
		}
	}
	good.enough(t, 1000, 300)
	writes.enough(t, 300, 300)
}

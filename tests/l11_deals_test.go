package tests

import (
	"maps"
	"math/rand"
	"reflect"
	"slices"
	"strconv"
	"strings"
	"testing"

	"loop.example/heirlooms/impl"
)

// deal is the deal that asks for a run.
func (a asked) deal() impl.Deal {
	return impl.Deal{Owner: a.owner, M: a.m, F: a.f, Args: a.args, Fuel: a.fuel}
}

// askedDeal is the run that a deal asks for.
func askedDeal(shelf []impl.Module, vaults []impl.Kept, d impl.Deal) asked {
	return asked{shelf: shelf, vaults: vaults, owner: d.Owner, m: d.M, f: d.F, args: d.Args, fuel: d.Fuel}
}

func (a asked) touches() []string { return impl.DealTouches(a.shelf, a.vaults, a.deal()) }

func (a asked) changes() []string { return impl.DealChanges(a.shelf, a.vaults, a.deal()) }

// spotsText is a text of the spots that a deal touches, with `!` behind those that it changes.
func (a asked) spotsText() string {
	spots, changes := a.touches(), a.changes()
	for k, spot := range spots {
		if slices.Contains(changes, spot) {
			spots[k] += "!"
		}
	}
	return strings.Join(spots, " ")
}

// checkSpots holds what is told of a deal against what the document's words tell of it, and returns that.
func (a asked) checkSpots(t *testing.T) ran {
	t.Helper()
	want := a.wanted()
	if out := impl.DealRun(a.shelf, a.vaults, a.deal()); !sameOutcome(out, want.out) {
		t.Errorf("DealRun of %v told %v, not %v", a, out, want.out)
	}
	if touched := a.touches(); !slices.Equal(touched, want.touched) {
		t.Errorf("DealTouches of %v told %q, not %q", a, touched, want.touched)
	}
	if changed := a.changes(); !slices.Equal(changed, want.changed) {
		t.Errorf("DealChanges of %v told %q, not %q", a, changed, want.changed)
	}
	return want
}

// rowWanted tells by the document's words the vaults behind a row of deals, and the codes.
func rowWanted(shelf []impl.Module, vaults []impl.Kept, deals []impl.Deal) ([]impl.Kept, []int) {
	if len(deals) > 8 || !shapeWanted(shelf) || !okKeptWanted(stand{shelf: shelf}.kinds(), vaults) {
		return nil, nil
	}
	codes := []int{}
	for _, d := range deals {
		out := askedDeal(shelf, vaults, d).wanted().out
		codes = append(codes, out.Code)
		if out.Code == impl.EndDone {
			vaults = out.Vaults
		}
	}
	return vaults, codes
}

// checkDeals holds what is told of a row of deals against what the document's words tell of it, and returns that.
func checkDeals(t *testing.T, shelf []impl.Module, vaults []impl.Kept, deals []impl.Deal) ([]impl.Kept, []int) {
	t.Helper()
	want, codes := rowWanted(shelf, vaults, deals)
	now, told := impl.DealsRun(shelf, vaults, deals)
	if !sameKept(now, want) || !slices.Equal(told, codes) {
		t.Errorf("DealsRun of %v over %v told %v and %v, not %v and %v", deals, vaults, now, told, want, codes)
	}
	return now, told
}

// meetWanted reports whether two lists of spots have one in common.
func meetWanted(a []string, b []string) bool {
	both := slices.Concat(a, b)
	slices.Sort(both)
	return len(slices.Compact(both)) < len(a)+len(b)
}

// apartWanted tells by the document's words whether two deals are apart.
func apartWanted(shelf []impl.Module, vaults []impl.Kept, a impl.Deal, b impl.Deal) bool {
	one, other := askedDeal(shelf, vaults, a).wanted(), askedDeal(shelf, vaults, b).wanted()
	if one.out.Code == impl.EndNone || other.out.Code == impl.EndNone {
		return false
	}
	return !meetWanted(one.touched, other.changed) && !meetWanted(one.changed, other.touched)
}

// checkApart holds in both orders whether two deals are apart against what the document's words tell, and returns that.
func checkApart(t *testing.T, shelf []impl.Module, vaults []impl.Kept, a impl.Deal, b impl.Deal) bool {
	t.Helper()
	want := apartWanted(shelf, vaults, a, b)
	if impl.DealsApart(shelf, vaults, a, b) != want || impl.DealsApart(shelf, vaults, b, a) != want {
		t.Errorf("DealsApart of %v and %v over %v does not tell %v", a, b, vaults, want)
	}
	return want
}

// shelfDeals is a good shelf with functions that ask for records in vaults, mostly of the owner that is their first argument.
// The first module keeps S00 (0), takes S01 (1), has S00 (2), and takes a number off that in S00 (3); the second one keeps S10 (0), takes it to who runs (1), sees it (2), and adds 1 to its number if it is there (3); the third one keeps S20 and then fails for large numbers (0), has S20 and S00 (1), sees S20 to write, and does not (2), and takes S20 (3).
func shelfDeals() []impl.Module {
	return runShelf("func 2 o n : : :; move 1; pack 0; move 0; keep 0; ret" +
		"; func 2 o : S01 : : 1; move 0; take 1; ret" +
		"; func 2 o : b : :; move 0; has 0; ret" +
		"; func 2 o n : n : : 0; copy 0; seew 0; field 0 0; peek; copy 1; sub; write; move 0; see 0; field 0 0; read; ret" +
		" / func 2 o n : : :; move 1; true; pack 0; move 0; keep 0; ret" +
		"; func 2 o : : : 0; move 0; take 0; me; keep 0; ret" +
		"; func 2 o : n : : 0; move 0; see 0; field 0 0; read; ret" +
		"; func 2 o : b : : 0; copy 0; has 0; zero 10; copy 0; seew 0; field 0 0; peek; num 1; add; write; copy 0; has 0; ret" +
		" / func 2 o n : : :; num 5; pack 0; copy 0; keep 0; num 3; copy 1; sub; drop; ret" +
		"; func 2 o : b b : :; copy 0; has 0; move 0; call 0 2; ret" +
		"; func 2 o : : : 0; move 0; seew 0; drop; ret" +
		"; func 2 o : n : : 0; move 0; take 0; unpack 0; ret")
}

// dealsOf are deals of shelfDeals that a text tells, parted by ` / `: of each the owner, the module and the function, `:`, and arguments parted by `; `. They have 100 of fuel.
func dealsOf(text string) []impl.Deal {
	kinds := stand{shelf: shelfDeals()}.kinds()
	deals := []impl.Deal{}
	for row := range strings.SplitSeq(text, " / ") {
		head, args, _ := strings.Cut(row, ": ")
		d := impl.Deal{Owner: int(head[0] - '0'), M: int(head[2] - '0'), F: int(head[4] - '0'), Fuel: 100}
		for _, arg := range textsOf(args) {
			d.Args = append(d.Args, read(kinds, arg))
		}
		deals = append(deals, d)
	}
	return deals
}

// codesText is a text of codes, with blanks between.
func codesText(codes []int) string {
	words := []string{}
	for _, code := range codes {
		words = append(words, strconv.Itoa(code))
	}
	return strings.Join(words, " ")
}

// keptText is a text of vaults as vaultsOf reads them, parted by `; `.
func keptText(list []impl.Kept) string {
	return strings.ReplaceAll(strings.TrimSuffix(textKeptWanted(list), "\n"), "\n", "; ")
}

func TestDealsConstant(t *testing.T) {
	if impl.DealsMost != 8 {
		t.Errorf("DealsMost is %d", impl.DealsMost)
	}
	if !impl.ShelfGood(shelfDeals()) {
		t.Errorf("a function goes wrong: %v", fault(shelfDeals()))
	}
}

// fault is the first fault of a shelf.
func fault(shelf []impl.Module) impl.Fault {
	f, _ := impl.VerifyShelf(shelf)
	return f
}

// TestSpotsWords takes each word that asks for a record, at one that is there and at one that is not, with each fuel up to that which it takes, and more.
func TestSpotsWords(t *testing.T) {
	there, other := "@0 S01(S00(0) +); @1 S00(3); @1 S01(S00(4) +); @3 S01(S00(5) -)", "@0 S01(S00(0) +); @1 S00(3); @1 S10(1 +); @2 S01(S00(2) +)"
	for _, row := range []struct {
		funcs, vaults string
		at            int // how many instructions are ahead of that which asks
		code          int
		change        bool
	}{
		{"func 2 o S01 : : :; move 1; move 0; keep 1; ret", there, 2, impl.EndVault, false},
		{"func 2 o S01 : : :; move 1; move 0; keep 1; ret", other, 2, impl.EndDone, true},
		{"func 2 o S01 : S01 S01 : : 1; move 1; move 0; take 1; ret", there, 2, impl.EndDone, true},
		{"func 2 o S01 : S01 S01 : : 1; move 1; move 0; take 1; ret", other, 2, impl.EndVault, false},
		{"func 2 o S01 : S01 b : :; move 1; move 0; has 1; ret", there, 2, impl.EndDone, false},
		{"func 2 o S01 : S01 b : :; move 1; move 0; has 1; ret", other, 2, impl.EndDone, false},
		{"func 2 o S01 : S01 : : 1; move 1; move 0; see 1; field 1 1; read; drop; ret", there, 2, impl.EndDone, false},
		{"func 2 o S01 : S01 : : 1; move 1; move 0; see 1; field 1 1; read; drop; ret", other, 2, impl.EndVault, false},
		{"func 2 o S01 : S01 : : 1; move 1; move 0; seew 1; field 1 1; false; write; ret", there, 2, impl.EndDone, true},
		{"func 2 o S01 : S01 : : 1; move 1; move 0; seew 1; field 1 1; false; write; ret", other, 2, impl.EndVault, false},
		{"func 2 o S01 : S01 : : 1; move 1; move 0; seew 1; drop; ret", there, 2, impl.EndDone, true},
		{"func 2 o S01 : S01 : :; move 1; num 1; drop; ret", there, 300, impl.EndDone, false},
	} {
		a := askedOf(row.funcs, "", row.vaults)
		a.args = []impl.Value{owner(1), read(a.kinds(), "S01(S00(9) +)")}
		took := a.steps()
		for a.fuel = range took + 3 {
			out := a.checkSpots(t).out
			want := map[bool]string{true: "1S01"}[a.fuel > row.at]
			if row.change && a.fuel >= took {
				want += "!"
			}
			if got := a.spotsText(); got != want || a.fuel >= took && out.Code != row.code {
				t.Errorf("%q over %q with %d of fuel ended with %d, and touched %q, not %q", row.funcs, row.vaults, a.fuel, out.Code, got, want)
			}
		}
		if !impl.ShelfGood(a.shelf) {
			t.Errorf("%q goes wrong: %v", row.funcs, fault(a.shelf))
		}
	}
}

// A spotsRow is a run (askedOf), its code, and the spots that it touches (spotsText).
type spotsRow struct {
	funcs, args, vaults string
	code                int
	spots               string
}

// checkSpotsRows holds the spots of runs against rows.
func checkSpotsRows(t *testing.T, rows []spotsRow) {
	t.Helper()
	for _, row := range rows {
		a := askedOf(row.funcs, row.args, row.vaults)
		out := a.checkSpots(t).out
		if got := a.spotsText(); out.Code != row.code || got != row.spots {
			t.Errorf("the run of %q with %q over %q ended with %d, and touched %q, not %q", row.funcs, row.args, row.vaults, out.Code, got, row.spots)
		}
	}
}

// TestSpotsTwice takes spots that are touched more than once, and changed by some of that alone.
func TestSpotsTwice(t *testing.T) {
	checkSpotsRows(t, []spotsRow{
		{"func 2 : : :; ret", "", "@2 S00(1)", 0, ""},
		{"func 2 : b b b : :; me; has 0; me; has 0; me; has 0; ret", "", "", 0, "2S00"},
		{"func 2 : b : :; me; has 0; me; see 0; drop; ret", "", "@2 S00(1)", 0, "2S00"},
		{"func 2 : b S00 : : 0; me; has 0; me; take 0; ret", "", "@2 S00(1)", 0, "2S00!"},
		{"func 2 : S00 b : : 0; me; take 0; me; has 0; ret", "", "@2 S00(1)", 0, "2S00!"},
		{"func 2 : : : 0; me; take 0; me; keep 0; ret", "", "@2 S00(1)", 0, "2S00!"},
		{"func 2 : S00 : : 0; num 5; pack 0; me; keep 0; me; take 0; ret", "", "", 0, "2S00!"},
		{"func 2 : : : 0; me; seew 0; num 6; pack 0; write; me; see 0; drop; ret", "", "@2 S00(1)", 0, "2S00!"},
		{"func 2 : : : 0; me; see 0; drop; me; seew 0; drop; me; has 0; drop; ret", "", "@2 S00(1)", 0, "2S00!"},
		{"func 2 : : : 0; me; see 0; drop; me; seew 0; freeze; drop; ret", "", "@2 S00(1)", 0, "2S00!"},
		{"func 2 o : b b : : 0; copy 0; has 0; me; has 0; copy 0; take 0; drop; me; see 0; drop; ret", "@1", "@1 S00(1); @2 S00(1)", 0, "1S00! 2S00"},
		{"func 2 o : b b : : 0; copy 0; has 0; me; has 0; copy 0; take 0; drop; me; see 0; drop; ret", "@2", "@1 S00(1); @2 S00(1)", 4, "2S00"},
		{"func 2 o : : : 0; copy 0; take 0; drop; me; see 0; drop; ret", "@1", "@1 S00(1)", 4, "1S00 2S00"},
		{"func 2 : : : 0 1; me; take 0; true; pack 1; me; keep 1; ret", "", "@2 S00(1)", 0, "2S00! 2S01!"},
		{"func 2 : b : : 0; me; take 0; drop; me; has 1; ret", "", "@2 S00(1)", 0, "2S00! 2S01"},
		{"func 2 o : : : 0; me; take 0; move 0; keep 0; ret", "@3", "@2 S00(1)", 0, "2S00! 3S00!"},
		{"func 2 o : : : 0; me; take 0; move 0; keep 0; ret", "@3", "@2 S00(1); @3 S00(1)", 4, "2S00 3S00"},
	})
}

// TestSpotsOrder takes spots of all owners and several kinds, in another order than that of their texts, also of functions that are called.
func TestSpotsOrder(t *testing.T) {
	heads := []string{"record 15 n\nrecord 15 b\nrecord 15 o\n", "record 15 n\nrecord 15 b\nrecord 15 o\n", "record 15 n\nrecord 15 b\nrecord 15 o\n"}
	has := "func 2 o : : :; copy 0; has 2; drop; copy 0; has 0; drop; copy 0; has 1; drop; ret"
	funcs := has + " / " + has + " / " + has + "; func 2 o o o : : :"
	last := []string{}
	for _, who := range []string{"copy 2", "copy 0", "me", "copy 1"} {
		last = append(last, who+"; call 2 0; "+who+"; call 0 0; "+who+"; call 1 0")
	}
	a := askedIn(heads, funcs+"; "+strings.Join(last, "; ")+"; ret", "@3; @0; @1", "@0 S00(1)")
	a.f, a.fuel = 1, 300
	want := []string{}
	for o := range 4 {
		for _, kind := range []string{"S00", "S01", "S02", "S10", "S11", "S12", "S20", "S21", "S22"} {
			want = append(want, strconv.Itoa(o)+kind)
		}
	}
	told := a.checkSpots(t)
	if told.out.Code != impl.EndDone || !slices.Equal(a.touches(), want) || len(a.changes()) != 0 {
		t.Errorf("a run that touches all spots ended with %d, and told %q and %q", told.out.Code, a.touches(), a.changes())
	}
	for a.fuel = 0; a.fuel < 160; a.fuel += 7 {
		a.checkSpots(t)
	}
	checkSpotsRows(t, []spotsRow{
		{"func 2 o o : : :; move 0; has 1; drop; copy 1; has 0; drop; copy 1; has 1; drop; me; has 1; drop; ret", "@3; @0", "", 0, "0S00 0S01 2S01 3S01"},
		{"func 2 o : : : 0; num 1; pack 0; copy 0; keep 0; num 1; pack 0; me; keep 0; me; has 1; drop; copy 0; has 1; drop; ret", "@3", "", 0, "2S00! 2S01 3S00! 3S01"},
		{"func 2 o : : : 0; move 0; has 1; drop; ret / func 2 o : : : 0; copy 0; has 0; drop; copy 0; call 0 0; copy 0; seew 0; drop; ret", "@1", "@1 S10(3 +)", 0, "1S01 1S10!"},
	})
}

// TestSpotsEnds takes runs that touch spots, and then end in each way: what is not done changes nothing.
func TestSpotsEnds(t *testing.T) {
	touch := "func 2 : : : 0; me; take 0; me; keep 0; me; has 1; drop; num 0; drop; me; seew 0; num 7; pack 0; write; "
	for ends, code := range map[string]int{
		"ret": 0, "num 77; fail": 1, "jump 14": 2, "num 0; num 1; sub": 3, "me; take 1": 4, "num 8; pack 0; me; keep 0": 4, "me; see 1": 4, "me; seew 1": 4, "call 0 1": 5, "add": 6, "jump 39": 6, "num 5; pack 0; pack 1": 6,
	} {
		spots := map[bool]string{true: "2S00! 2S01", false: "2S00 2S01"}[code == 0]
		checkSpotsRows(t, []spotsRow{{touch + ends + "; func 0 : : :; call 0 1", "", "@0 S00(4); @2 S00(1)", code, spots}})
	}
}

// TestSpotsWrong takes runs that go wrong where a record is asked for, and so do not ask, and such that go wrong behind that.
func TestSpotsWrong(t *testing.T) {
	rows := []spotsRow{}
	for _, word := range []string{"take", "has", "see", "seew", "keep"} {
		for _, code := range []string{"%", "num 1; %", "true; %", "me; drop; %", "num 2; pack 0; %", "me; num 1; %"} {
			rows = append(rows, spotsRow{"func 2 : : :; " + strings.ReplaceAll(code, "%", word+" 0") + "; ret", "", "@2 S00(1)", 6, ""})
		}
		rows = append(rows,
			spotsRow{"func 2 : : :; num 1; pack 2; me; " + word + " 2; ret", "", "", 6, ""},
			spotsRow{" /  / func 2 S21 : : :; move 0; me; " + word + " 1; ret", "S21(4)", "", 6, ""},
			spotsRow{" /  / func 2 S20 : : :; move 0; me; " + word + " 2; ret", "S20(4)", "", 6, ""},
		)
	}
	checkSpotsRows(t, append(rows,
		spotsRow{"func 2 : : :; me; keep 0; ret", "", "", 6, ""},
		spotsRow{"func 2 : : :; num 1; me; keep 0; ret", "", "@2 S00(1)", 6, ""},
		spotsRow{"func 2 : : :; num 1; pack 0; me; keep 1; ret", "", "", 6, ""},
		spotsRow{"func 2 : : :; num 1; pack 0; true; pack 1; me; keep 0; ret", "", "@2 S01(S00(1) +)", 6, ""},
		spotsRow{"func 2 : : :; me; has 1; me; keep 0; ret", "", "", 6, "2S01"},
		spotsRow{"func 2 : : :; me; take 0; add; ret", "", "@2 S00(1)", 6, "2S00"},
		spotsRow{"func 2 : : :; me; seew 0; num 8; write; ret", "", "@2 S00(1)", 6, "2S00"},
		spotsRow{"func 2 : S00 : :; me; take 0; pack 1; ret", "", "@2 S00(1)", 6, "2S00"},
		spotsRow{"func 2 : S01 : :; me; take 0; ret", "", "@2 S00(1)", 6, "2S00"},
		spotsRow{"func 2 : : :; num 1; pack 0; me; keep 0", "", "", 6, "2S00"},
	))
}

// TestSpotsNotGood takes shelves that have their shape and are not good: what Takes says does not matter.
func TestSpotsNotGood(t *testing.T) {
	rows := []spotsRow{
		{"func 2 : S00 : :; me; take 0; ret", "", "@2 S00(1)", 0, "2S00!"},
		{"func 2 : S00 : : 1; me; take 0; me; has 1; drop; ret", "", "@2 S00(1)", 0, "2S00! 2S01"},
		{"func 2 : : : 1; me; seew 0; num 4; pack 0; write; ret", "", "@2 S00(1)", 0, "2S00!"},
		{"func 2 : n : : 0; me; seew 0; me; seew 0; field 0 0; read; ret", "", "@2 S00(1)", 0, "2S00!"},
		{"func 2 o : n : : 0; me; see 0; me; take 0; copy 0; keep 0; drop; num 4; ret", "@1", "@2 S00(1)", 0, "1S00! 2S00!"},
		{"func 2 : b : :; me; has 0; ret; func 2 : : :; add", "", "", 0, "2S00"},
	}
	checkSpotsRows(t, rows)
	for _, row := range rows {
		if shelf := runShelf(row.funcs); !impl.ShelfShape(shelf) || impl.ShelfGood(shelf) {
			t.Errorf("the shelf of %q has its shape: %v, and is good: %v", row.funcs, impl.ShelfShape(shelf), impl.ShelfGood(shelf))
		}
	}
}

// whose puts an owner on the stack, by chance: who runs, or one that is in a place.
func (w *writer) whose() {
	for k, m := range w.s.Places {
		if m.Type == "o" && w.r.Intn(2) == 0 && w.do(ins("copy", k)) {
			return
		}
	}
	w.do(ins("me"))
}

// ask puts instructions behind the code that ask for a record in a vault, by chance, and do something with it.
func (w *writer) ask() {
	k, down := w.r.Intn(3), len(w.s.Stack)
	w.whose()
	switch word := pick(w.r, []string{"has", "see", "seew", "seew", "take", "take", "keep"}); word {
	case "seew":
		for field := range 3 {
			if w.do(ins(word, k)) && w.do(ins("field", field, k)) && w.make(w.top(0).Type[1:]) {
				w.do(ins("write"))
			}
		}
	case "take":
		if w.do(ins(word, k)) && w.r.Intn(3) > 0 {
			w.whose()
			w.do(ins("keep", k))
		}
	case "keep":
		w.do(ins("drop"))
		if w.make(w.ownKind(k)) {
			w.whose()
			w.do(ins("keep", k))
		}
	default:
		w.do(ins(word, k))
	}
	for range len(w.s.Stack) - down {
		w.clear()
	}
}

// someVaultShelf is a shelf of a sort whose functions ask for records in vaults, by chance, and do not call each other.
func someVaultShelf(r *rand.Rand, sort runSort) []impl.Module {
	shelf := someHeads(r, pick(r, kindsRun()))
	for m := range shelf {
		for f := range shelf[m].Funcs {
			w := writer{stand: stand{shelf: shelf, m: m, f: f}, r: r, loose: sort == sortLoose}
			w.s, _ = firstWanted(shelf, m, f)
			for range 1 + r.Intn(4) {
				if len(w.code) < 20 {
					w.ask()
				}
			}
			fn := &shelf[m].Funcs[f]
			if fn.Code = w.finish(); sort == sortSpoilt && r.Intn(2) == 0 {
				fn.Code[r.Intn(len(fn.Code))] = pick(r, pick(r, shelf[m].Funcs[:f+1]).Code)
			}
		}
	}
	return shelf
}

// someVaults are vaults for a shelf, by chance.
func someVaults(r *rand.Rand, shelf []impl.Module) []impl.Kept {
	seldom := 2 + r.Intn(4)
	return slices.DeleteFunc(allOf(r, stand{shelf: shelf}.kinds()), func(impl.Kept) bool { return r.Intn(seldom) == 0 })
}

// someAsking are runs that ask for records in vaults, by chance, some of which cannot begin.
func someAsking(seed int64, many int) []asked {
	r := rand.New(rand.NewSource(seed))
	runs := []asked{}
	for k := range many {
		shelf := someVaultShelf(r, runSort(k%3))
		vaults := someVaults(r, shelf)
		for _, d := range someDeals(r, shelf) {
			runs = append(runs, askedDeal(shelf, vaults, d))
		}
	}
	return runs
}

// TestSpotsMany takes runs by chance.
func TestSpotsMany(t *testing.T) {
	touch, change, left, not := tally{}, tally{}, tally{}, tally{}
	for _, a := range slices.Concat(someAsking(1101, 400), someRuns(1102, 30, sortGood), someRuns(1103, 30, sortLoose), someRuns(1104, 30, sortSpoilt)) {
		told := a.checkSpots(t)
		touch.count(len(told.touched) > 1)
		change.count(len(told.changed) > 0)
		left.count(told.out.Code == impl.EndDone && len(told.changed) < len(told.touched))
		not.count(told.out.Code != impl.EndDone && len(told.touched) > 0)
	}
	touch.enough(t, 300, 500)
	change.enough(t, 300, 500)
	left.enough(t, 100, 500)
	not.enough(t, 300, 500)
}

// A dealsRow is a row of deals (dealsOf) over vaults, the codes, and the vaults behind it.
type dealsRow struct{ deals, vaults, codes, behind string }

// checkDealsRows holds rows of deals of shelfDeals against what they lead to.
func checkDealsRows(t *testing.T, rows []dealsRow) {
	t.Helper()
	shelf := shelfDeals()
	kinds := stand{shelf: shelf}.kinds()
	for _, row := range rows {
		now, codes := checkDeals(t, shelf, vaultsOf(kinds, textsOf(row.vaults)...), dealsOf(row.deals))
		if codesText(codes) != row.codes || keptText(now) != row.behind {
			t.Errorf("%q over %q ended with %q, and left %q", row.deals, row.vaults, codesText(codes), keptText(now))
		}
	}
}

// TestDealsRows takes deals of which later ones hang on what earlier ones left.
func TestDealsRows(t *testing.T) {
	checkDealsRows(t, []dealsRow{
		{"0 0 0: @1; 5", "", "0", "@1 S00(5)"},
		{"0 0 0: @1; 5 / 0 0 0: @1; 6", "", "0 4", "@1 S00(5)"},
		{"0 0 0: @1; 5 / 0 0 0: @2; 6", "", "0 0", "@1 S00(5); @2 S00(6)"},
		{"0 0 0: @2; 5 / 3 1 0: @2; 6 / 1 0 0: @1; 7", "", "0 0 0", "@1 S00(7); @2 S00(5); @2 S10(6 +)"},
		{"0 0 3: @1; 7 / 0 0 3: @1; 7", "@1 S00(10)", "0 3", "@1 S00(3)"},
		{"0 0 3: @1; 7 / 0 0 3: @1; 3 / 0 0 3: @1; 1", "@1 S00(10)", "0 0 3", "@1 S00(0)"},
		{"0 0 3: @1; 7 / 0 0 0: @1; 5 / 0 0 3: @1; 2", "", "4 0 0", "@1 S00(3)"},
		{"2 1 1: @1 / 3 1 1: @2 / 0 1 1: @1 / 0 1 1: @3", "@1 S10(8 -)", "0 0 4 0", "@0 S10(8 -)"},
		{"2 1 3: @1 / 2 1 3: @1 / 2 1 3: @2", "@1 S10(8 -)", "0 0 0", "@1 S10(10 -)"},
		{"2 0 1: @1 / 2 0 1: @1 / 2 0 1: @2", "@1 S01(S00(8) -); @2 S01(S00(9) +)", "0 4 0", ""},
		{"2 2 0: @1; 4 / 2 2 0: @1; 3 / 2 2 0: @1; 2", "", "3 0 4", "@1 S20(5)"},
		{"2 2 0: @1; 3 / 2 2 3: @1 / 2 2 0: @1; 2", "@1 S10(1 +)", "0 0 0", "@1 S10(1 +); @1 S20(5)"},
		{"2 0 2: @1 / 2 1 2: @1 / 2 2 1: @1 / 2 2 2: @1", "@1 S10(1 +)", "0 0 0 4", "@1 S10(1 +)"},
		{"2 0 2: @1 / 2 1 2: @1 / 2 2 1: @1 / 2 2 2: @1", "@1 S20(1); @3 S10(1 +)", "0 4 0 0", "@1 S20(1); @3 S10(1 +)"},
	})
}

// TestDealsPay takes the deals of one that pays another one, in each order, and back again.
func TestDealsPay(t *testing.T) {
	shelf := shelfOf([]string{"record 15 n\nrecord 12 S00\n"}, "func 2 o n : : : 1; me; seew 1; field 0 1; field 0 0; peek; copy 1; sub; write; copy 0; seew 1; field 0 1; field 0 0; peek; copy 1; add; write; ret")
	kinds := stand{shelf: shelf}.kinds()
	vaults := vaultsOf(kinds, "@0 S01(S00(10))", "@1 S01(S00(5))")
	pay := func(from int, to int, n int) impl.Deal {
		return impl.Deal{Owner: from, Args: []impl.Value{owner(to), num(n)}, Fuel: 100}
	}
	for _, row := range []struct {
		deals         []impl.Deal
		codes, behind string
	}{
		{[]impl.Deal{pay(0, 1, 7), pay(0, 1, 7)}, "0 3", "@0 S01(S00(3)); @1 S01(S00(12))"},
		{[]impl.Deal{pay(0, 1, 7), pay(1, 0, 12), pay(0, 1, 15)}, "0 0 0", "@0 S01(S00(0)); @1 S01(S00(15))"},
		{[]impl.Deal{pay(1, 0, 12), pay(0, 1, 7)}, "3 0", "@0 S01(S00(3)); @1 S01(S00(12))"},
		{[]impl.Deal{pay(0, 2, 7), pay(2, 0, 1), pay(0, 0, 10)}, "4 4 0", "@0 S01(S00(10)); @1 S01(S00(5))"},
		{[]impl.Deal{pay(0, 1, 10), pay(4, 1, 1), pay(0, 1, 1), pay(1, 0, 15)}, "0 7 3 0", "@0 S01(S00(15)); @1 S01(S00(0))"},
	} {
		now, codes := checkDeals(t, shelf, vaults, row.deals)
		if codesText(codes) != row.codes || keptText(now) != row.behind {
			t.Errorf("%v ended with %q, and left %q", row.deals, codesText(codes), keptText(now))
		}
	}
	if got := askedDeal(shelf, vaults, pay(0, 1, 7)).spotsText(); got != "0S01! 1S01!" {
		t.Errorf("the first deal touched %q", got)
	}
	if got := askedDeal(shelf, vaults, pay(0, 2, 7)).spotsText(); got != "0S01 2S01" {
		t.Errorf("a deal with who has nothing touched %q", got)
	}
	if got := askedDeal(shelf, vaults, pay(0, 1, 11)).spotsText(); got != "0S01" {
		t.Errorf("a deal with too much touched %q", got)
	}
}

// TestDealsEmpty takes a row without deals, also over shelves that have not their shape, and vaults that are none.
func TestDealsEmpty(t *testing.T) {
	shelf := shelfDeals()
	kinds := stand{shelf: shelf}.kinds()
	all := vaultsOf(kinds, "@0 S00(4)", "@1 S01(S00(3) -)", "@2 S00(1)", "@3 S20(4)")
	for _, deals := range [][]impl.Deal{nil, {}} {
		for _, vaults := range [][]impl.Kept{nil, {}, all[:1], all} {
			if now, codes := checkDeals(t, shelf, vaults, deals); !sameKept(now, vaults) || len(codes) != 0 {
				t.Errorf("a row without deals over %v told %v and %v", vaults, now, codes)
			}
		}
		for name, none := range shelvesNoShape() {
			for _, vaults := range [][]impl.Kept{nil, all[:1], all} {
				if now, codes := checkDeals(t, none, vaults, deals); len(now) != 0 || len(codes) != 0 {
					t.Errorf("%s: a row without deals told %v and %v", name, now, codes)
				}
			}
		}
		for name, vaults := range vaultsNone() {
			if now, codes := checkDeals(t, shelf, vaults, deals); len(now) != 0 || len(codes) != 0 {
				t.Errorf("%s: a row without deals told %v and %v", name, now, codes)
			}
		}
		for _, shelf := range [][]impl.Module{nil, {}, {{}}, {{}, {}, {}}} {
			checkDeals(t, shelf, nil, deals)
			if now, codes := checkDeals(t, shelf, all[:1], deals); len(now) != 0 || len(codes) != 0 {
				t.Errorf("a row without deals over a shelf without kinds told %v and %v", now, codes)
			}
		}
	}
}

// behindSpoil is what askedGood is behind a change (spoilsOfRun).
func behindSpoil(spoil func(a *asked)) asked {
	a := askedGood()
	spoil(&a)
	return a
}

// vaultsNone are lists that are no vaults of shelfDeals, under their names.
func vaultsNone() map[string][]impl.Kept {
	none := map[string][]impl.Kept{"an owner below": vaultsOf(stand{shelf: shelfDeals()}.kinds(), "@1 S00(7)", "@2 S10(7 +)")}
	none["an owner below"][0].Owner = -1
	for name, spoil := range spoilsOfRun() {
		if a := behindSpoil(spoil); !sameKept(a.vaults, askedGood().vaults) {
			none[name] = a.vaults
		}
	}
	return none
}

// TestDealsNone takes rows over shelves without their shape, and vaults that are none, with deals that begin elsewhere, and such that do not.
func TestDealsNone(t *testing.T) {
	shelf := shelfDeals()
	kinds := stand{shelf: shelf}.kinds()
	good := vaultsOf(kinds, "@0 S00(4)", "@2 S00(1)")
	deals := dealsOf("0 0 0: @1; 5 / 0 0 2: @1 / 4 0 2: @1")
	if now, codes := checkDeals(t, shelf, good, deals); codesText(codes) != "0 0 7" || len(now) != 3 {
		t.Errorf("the row ended with %v", codes)
	}
	for name, vaults := range vaultsNone() {
		if now, codes := checkDeals(t, shelf, vaults, deals); len(now) != 0 || len(codes) != 0 {
			t.Errorf("vaults with %s: told %v and %v", name, now, codes)
		}
	}
	for name, none := range shelvesNoShape() {
		for _, vaults := range [][]impl.Kept{nil, good} {
			if now, codes := checkDeals(t, none, vaults, append(deals, impl.Deal{Fuel: 9})); len(now) != 0 || len(codes) != 0 {
				t.Errorf("a shelf with %s: told %v and %v", name, now, codes)
			}
		}
	}
	for _, shelf := range [][]impl.Module{nil, {}, {{}}} {
		if now, codes := checkDeals(t, shelf, nil, deals); len(now) != 0 || codesText(codes) != "7 7 7" {
			t.Errorf("a row over a shelf without functions told %v and %v", now, codes)
		}
	}
}

// TestDealsMost takes as many deals as there may be, and more, such that begin and such that do not.
func TestDealsMost(t *testing.T) {
	shelf := shelfDeals()
	vaults := vaultsOf(stand{shelf: shelf}.kinds(), "@1 S10(1 +)", "@2 S00(0)")
	for _, row := range [][2]string{{"2 1 3: @1", "0"}, {"3 0 0: @2; 1", "4"}, {"0 0 3: @2; 1", "3"}, {"4 1 3: @1", "7"}} {
		for many := range 12 {
			deals := slices.Repeat(dealsOf(row[0]), many)
			now, codes := checkDeals(t, shelf, vaults, deals)
			want := codesText(codes) == strings.TrimSuffix(strings.Repeat(row[1]+" ", many), " ") && len(now) == 2
			if row[1] == "0" && want {
				want = keptText(now) == "@1 S10("+strconv.Itoa(many+1)+" +); @2 S00(0)"
			}
			if many > 8 {
				want = len(now) == 0 && len(codes) == 0
			}
			if !want {
				t.Errorf("%d times %q told %v and %v", many, row[0], now, codes)
			}
		}
	}
	deals := dealsOf("0 0 0: @0; 1 / 0 0 0: @1; 2 / 0 0 0: @2; 3 / 0 0 0: @3; 4 / 0 1 0: @0; 1 / 0 1 0: @1; 2 / 0 1 0: @2; 3 / 0 1 0: @3; 4 / 0 2 0: @3; 1")
	for from := range 2 {
		if now, codes := checkDeals(t, shelf, nil, deals[from:from+8]); len(now) != 8 || codesText(codes) != "0 0 0 0 0 0 0 0" {
			t.Errorf("a row of 8 deals told %v and %v", now, codes)
		}
	}
	if now, codes := checkDeals(t, shelf, nil, deals); len(now) != 0 || len(codes) != 0 {
		t.Errorf("a row of 9 deals told %v and %v", now, codes)
	}
}

// shelfBegins is the shelf of askedGood, with functions that have references, too; no more than the first function can be run.
func shelfBegins() []impl.Module {
	shelf := askedGood().shelf
	shelf[1].Funcs = shelfOf(headsRun(), " / func 2 &n : : :; ret; func 2 : !n : n :; num 4; fail; func 1 : : :; ret; func 0 : : :; ret")[1].Funcs
	return shelf
}

// dealsNone are deals of shelfBegins that cannot begin, under their names.
func dealsNone() map[string]impl.Deal {
	good := askedGood()
	none := map[string]impl.Deal{}
	for name, spoil := range spoilsOfRun() {
		if a := behindSpoil(spoil); sameShelf(a.shelf, good.shelf) && sameKept(a.vaults, good.vaults) {
			none[name] = a.deal()
		}
	}
	none["a module without functions"] = impl.Deal{M: 2, Fuel: 9}
	for f, args := range [][]impl.Value{{{Type: "&n", Path: []int{0, 0, 0}}}, nil, nil, nil} {
		none["the function "+strconv.Itoa(f)+" of the second module"] = impl.Deal{M: 1, F: f, Args: args, Fuel: 9}
	}
	return none
}

// TestDealsBetween takes a deal that cannot begin, in each way, ahead of, between and behind others that can.
func TestDealsBetween(t *testing.T) {
	shelf, good := shelfBegins(), askedGood()
	five, six := good.deal(), good.deal()
	six.Args = []impl.Value{num(6), good.args[1]}
	want := "@1 S00(7); @2 S00(6)"
	for name, none := range dealsNone() {
		for _, row := range []struct {
			deals []impl.Deal
			codes string
		}{{[]impl.Deal{five, none, six}, "0 7 0"}, {[]impl.Deal{none, five, six}, "7 0 0"}, {[]impl.Deal{five, six, none}, "0 0 7"}, {[]impl.Deal{none, none, five, none, none, six, none, none}, "7 7 0 7 7 0 7 7"}} {
			if now, codes := checkDeals(t, shelf, good.vaults, row.deals); codesText(codes) != row.codes || keptText(now) != want {
				t.Errorf("%s: the row ended with %v, and left %q", name, codes, keptText(now))
			}
		}
		if now, codes := checkDeals(t, shelf, good.vaults, []impl.Deal{none}); codesText(codes) != "7" || !sameKept(now, good.vaults) {
			t.Errorf("%s: alone it ended with %v, and left %q", name, codes, keptText(now))
		}
	}
}

// TestDealNone takes a deal that cannot begin, in each way, also over shelves without their shape and vaults that are none.
func TestDealNone(t *testing.T) {
	all := runsNone()
	for name, d := range dealsNone() {
		all["a deal with "+name] = askedDeal(shelfBegins(), askedGood().vaults, d)
	}
	for name, vaults := range vaultsNone() {
		all["a deal over "+name] = askedDeal(shelfDeals(), vaults, dealsOf("0 0 2: @1")[0])
	}
	for name, a := range all {
		if told := a.checkSpots(t); told.out.Code != impl.EndNone {
			t.Errorf("%s: it can begin", name)
		}
		if out := impl.DealRun(a.shelf, a.vaults, a.deal()); !sameOutcome(out, impl.Outcome{Code: 7}) || len(a.touches()) != 0 || len(a.changes()) != 0 {
			t.Errorf("%s: told %v %q %q", name, out, a.touches(), a.changes())
		}
		for _, other := range []impl.Deal{a.deal(), askedGood().deal(), {Fuel: 9}} {
			if impl.DealsApart(a.shelf, a.vaults, a.deal(), other) || impl.DealsApart(a.shelf, a.vaults, other, a.deal()) {
				t.Errorf("%s: it is apart from %v", name, other)
			}
		}
	}
	good := askedGood()
	if got := good.spotsText(); got != "2S00!" || good.checkSpots(t).out.Code != impl.EndDone {
		t.Errorf("what can begin touched %q", got)
	}
}

// TestDealsEnds takes a deal that is not done, in each way in which a run ends, between two that are: it leaves nothing behind.
func TestDealsEnds(t *testing.T) {
	change := "func 2 : : : 0; num 9; pack 0; num 0; drop; me; seew 0; num 5; pack 0; write; num 3; drop; drop; me; take 0; drop; num 6; pack 0; me; keep 0; num 1; pack 0; drop; "
	count := "; func 2 o : n : : 0; copy 0; seew 0; field 0 0; peek; num 1; add; write; move 0; see 0; field 0 0; read; ret"
	for ends, code := range map[string]int{
		"ret": 0, "num 77; fail": 1, "jump 22": 2, "num 0; num 1; sub": 3, "num 1000000; num 2; mul": 3, "num 1; num 0; div": 3, "me; take 1": 4, "num 8; pack 0; me; keep 0": 4, "me; see 1": 4, "me; seew 1": 4,
		"call 0 2": 5, "add": 6, "me; not": 6, "jump 39": 6, "num 4; pack 0; pack 1": 6,
	} {
		a := askedOf(change+ends+count+"; func 0 : : :; call 0 2", "", "@1 S00(3); @2 S00(40); @3 S00(9)")
		first := impl.Deal{Owner: 0, F: 1, Args: []impl.Value{owner(2)}, Fuel: 20}
		for _, row := range []struct {
			deals     []impl.Deal
			codes     string
			done, not string
		}{
			{[]impl.Deal{a.deal()}, "%", "6", "40"}, {[]impl.Deal{a.deal(), a.deal()}, "% %", "6", "40"},
			{[]impl.Deal{first, a.deal()}, "0 %", "6", "41"}, {[]impl.Deal{a.deal(), first}, "% 0", "7", "41"},
			{[]impl.Deal{first, a.deal(), first}, "0 % 0", "7", "42"}, {[]impl.Deal{a.deal(), first, a.deal(), a.deal(), first, first}, "% 0 % % 0 0", "8", "43"},
		} {
			n := map[bool]string{true: row.done, false: row.not}[code == impl.EndDone]
			now, codes := checkDeals(t, a.shelf, a.vaults, row.deals)
			if codesText(codes) != strings.ReplaceAll(row.codes, "%", strconv.Itoa(code)) || keptText(now) != "@1 S00(3); @2 S00("+n+"); @3 S00(9)" {
				t.Errorf("%q: the row ended with %v, and left %q", ends, codes, keptText(now))
			}
		}
	}
	for fuel := range 14 { // the last drop of fuel
		d := dealsOf("2 1 3: @1")
		d[0].Fuel = fuel
		shelf := shelfDeals()
		now, codes := checkDeals(t, shelf, vaultsOf(stand{shelf: shelf}.kinds(), "@1 S10(1 +)"), slices.Concat(d, dealsOf("2 1 3: @1"), d))
		want, behind := "2 0 2", "@1 S10(2 +)"
		if fuel == 13 {
			want, behind = "0 0 0", "@1 S10(4 +)"
		}
		if codesText(codes) != want || keptText(now) != behind {
			t.Errorf("with %d of fuel the row ended with %v, and left %q", fuel, codes, keptText(now))
		}
	}
}

// TestDealsNotGood takes a shelf that has its shape and is not good, in which one deal goes wrong, and others do not.
func TestDealsNotGood(t *testing.T) {
	for funcs, good := range map[string]bool{
		"func 2 n : S00 : : 0; me; take 0; copy 0; pack 0; me; keep 0; ret; func 2 n : : :; ret": true,
		"func 2 n : S00 : :; me; take 0; copy 0; pack 0; me; keep 0; ret; func 2 n : : :; ret":   false,
		"func 2 n : S00 : : 0; me; take 0; copy 0; pack 0; me; keep 0; ret; func 2 n : : :; add": false,
	} {
		a := askedOf(funcs, "5", "@1 S00(3); @2 S00(40)")
		if impl.ShelfGood(a.shelf) != good {
			t.Errorf("%q is good: %v", funcs, !good)
		}
		second := a.deal()
		second.F = 1
		code := map[bool]int{true: impl.EndWrong, false: impl.EndDone}[strings.Contains(funcs, "add")]
		now, codes := checkDeals(t, a.shelf, a.vaults, []impl.Deal{second, a.deal(), second, a.deal()})
		if !slices.Equal(codes, []int{code, 0, code, 0}) || keptText(now) != "@1 S00(3); @2 S00(5)" {
			t.Errorf("%q: the row ended with %v, and left %q", funcs, codes, keptText(now))
		}
		if got := a.spotsText(); got != "2S00!" {
			t.Errorf("%q: it touched %q", funcs, got)
		}
		if apart := checkApart(t, a.shelf, a.vaults, a.deal(), second); !apart {
			t.Errorf("%q: the deals are not apart", funcs)
		}
	}
}

// TestDealsMany takes rows by chance.
func TestDealsMany(t *testing.T) {
	r := rand.New(rand.NewSource(1111))
	for sort := range 3 {
		done, changed := tally{}, tally{}
		for k := range 120 {
			shelf := someRunShelf(r, runSort(sort))
			if k%2 == 0 {
				shelf = someVaultShelf(r, runSort(sort))
			}
			vaults := someVaults(r, shelf)
			now, codes := checkDeals(t, shelf, vaults, someDeals(r, shelf))
			for _, code := range codes {
				done.count(code == impl.EndDone)
			}
			changed.count(!sameKept(now, vaults))
		}
		done.enough(t, 150, 100)
		changed.enough(t, 20, 20)
	}
}

// someDeals is a row of deals of a shelf, by chance, some of which cannot begin.
func someDeals(r *rand.Rand, shelf []impl.Module) []impl.Deal {
	deals := []impl.Deal{}
	for _, a := range someRow(r, shelf) {
		d := a.deal()
		switch r.Intn(30) {
		case 0:
			d.Owner = pick(r, []int{-1, 4})
		case 1:
			d.Fuel = pick(r, []int{-1, 301})
		case 2:
			d.M, d.F = pick(r, []int{-1, 0, 1, 2, 3}), pick(r, []int{-1, 2, 3, 4})
		case 3:
			d.Args = append(d.Args, num(1))
		}
		deals = append(deals, d)
	}
	return deals
}

// TestDealsApart takes two deals, in both orders: such that touch other spots, the same one without a change, or one that one of them changes, or both.
func TestDealsApart(t *testing.T) {
	shelf := shelfDeals()
	kinds := stand{shelf: shelf}.kinds()
	vaults := vaultsOf(kinds, "@0 S00(4)", "@1 S01(S00(3) -)", "@1 S10(7 +)", "@2 S00(1)", "@3 S20(4)")
	for _, c := range []struct {
		deals string
		apart bool
	}{
		{"0 0 2: @1 / 0 0 2: @1", true}, {"0 0 2: @1 / 0 0 2: @2", true}, {"0 0 2: @0 / 0 2 1: @0", true}, {"0 1 2: @1 / 2 1 2: @1", true}, // touched without a change
		{"0 0 0: @1; 5 / 0 0 0: @3; 5", true}, {"0 0 0: @1; 5 / 0 1 0: @2; 5", true}, {"0 1 3: @1 / 0 0 0: @1; 3", true}, {"0 0 3: @0; 1 / 0 0 3: @2; 1", true}, // other spots are changed
		{"0 0 0: @1; 5 / 0 0 0: @1; 5", false}, {"0 0 0: @1; 5 / 0 0 0: @1; 6", false}, {"0 0 3: @0; 1 / 0 0 3: @0; 1", false}, {"0 1 3: @1 / 2 1 1: @1", false}, {"0 2 2: @3 / 1 2 3: @3", false}, // both change one
		{"0 0 0: @1; 5 / 0 0 2: @1", false}, {"0 0 3: @0; 4 / 0 0 2: @0", false}, {"0 1 3: @1 / 0 1 2: @1", false}, {"0 2 2: @3 / 1 2 1: @3", false}, {"0 2 3: @3 / 1 2 1: @3", false}, {"0 0 0: @3; 1 / 1 2 1: @3", false}, // one changes what the other one touches
		{"0 0 0: @0; 5 / 0 0 2: @0", true}, {"0 0 0: @0; 5 / 0 0 0: @0; 6", true}, {"0 0 3: @0; 5 / 0 0 2: @0", true}, {"0 2 2: @1 / 1 2 1: @1", true}, // what is not done changes nothing
		{"0 0 3: @0; 5 / 0 0 3: @0; 4", false}, {"0 2 0: @1; 5 / 0 2 0: @1; 1", false}, {"0 2 0: @1; 5 / 0 2 1: @1", true}, {"0 1 1: @2 / 0 1 2: @2", true}, {"0 1 1: @2 / 0 1 3: @2", true}, {"0 1 3: @2 / 0 1 0: @2; 3", false},
		{"0 1 1: @1 / 3 1 1: @1", false}, {"0 1 1: @1 / 3 1 3: @0", false}, {"2 1 1: @1 / 3 1 3: @0", true}, {"2 1 1: @1 / 0 0 0: @1; 3", true}, {"2 1 1: @1 / 0 1 2: @2", false}, {"2 1 1: @1 / 0 1 0: @2; 6", false},
		{"2 0 1: @1 / 2 0 1: @1", false}, {"2 0 1: @1 / 2 0 0: @1; 3", true}, {"2 0 1: @1 / 2 0 1: @2", true},
		{"4 0 2: @1 / 0 0 2: @1", false}, {"0 0 2: @1 / 0 0 4: @1", false}, {"0 0 2: @1 / 0 0 2: 4", false}, {"0 3 2: @1 / 0 0 2: @1", false}, {"0 0 2: @1 / 0 0 2: @1; @1", false}, {"4 0 2: @1 / 0 3 2: @1", false}, // one cannot begin, or both
	} {
		deals := dealsOf(c.deals)
		if got := checkApart(t, shelf, vaults, deals[0], deals[1]); got != c.apart {
			t.Errorf("DealsApart of %q told %v", c.deals, got)
		}
	}
}

// TestDealsApartNone takes what is asked for over shelves without their shape, and vaults that are none, or of no kinds.
func TestDealsApartNone(t *testing.T) {
	deals := dealsOf("0 0 2: @1 / 0 0 2: @2")
	if !impl.DealsApart(shelfDeals(), nil, deals[0], deals[1]) {
		t.Error("the deals are not apart")
	}
	for name, vaults := range vaultsNone() {
		if checkApart(t, shelfDeals(), vaults, deals[0], deals[1]) {
			t.Errorf("%s: the deals are apart", name)
		}
	}
	for name, shelf := range shelvesNoShape() {
		if checkApart(t, shelf, nil, impl.Deal{Fuel: 9}, impl.Deal{Fuel: 9}) {
			t.Errorf("%s: the deals are apart", name)
		}
	}
	shelf := runShelf("func 2 : : :; ret")
	if !checkApart(t, shelf, nil, impl.Deal{Fuel: 9}, impl.Deal{Fuel: 9}) || !checkApart(t, shelf, nil, impl.Deal{Fuel: 0}, impl.Deal{Fuel: 9}) {
		t.Error("deals that touch nothing are not apart")
	}
	if checkApart(t, nil, nil, impl.Deal{}, impl.Deal{}) || checkApart(t, []impl.Module{{}}, nil, impl.Deal{}, impl.Deal{}) {
		t.Error("deals of functions that are none are apart")
	}
}

// everyDeal are deals of each function of shelfDeals, by some owners with each other.
func everyDeal() []impl.Deal {
	deals := []impl.Deal{}
	for m, module := range shelfDeals() {
		for f, fn := range module.Funcs {
			for who := range 3 {
				d := impl.Deal{Owner: 2 - who%2, M: m, F: f, Fuel: 100, Args: []impl.Value{owner(who), num(who + 2)}[:len(fn.Args)]}
				deals = append(deals, d)
			}
		}
	}
	return append(deals, impl.Deal{Owner: 1, M: 1, F: 1, Fuel: 2, Args: []impl.Value{owner(2)}}, impl.Deal{Owner: 1, M: 0, F: 2, Fuel: 301, Args: []impl.Value{owner(2)}})
}

// vaultsDeals are vaults for everyDeal.
func vaultsDeals() [][]impl.Kept {
	kinds := stand{shelf: shelfDeals()}.kinds()
	return [][]impl.Kept{
		nil, vaultsOf(kinds, "@0 S00(4)", "@0 S10(7 +)", "@1 S01(S00(3) -)", "@1 S10(7 +)", "@2 S00(1)", "@2 S20(4)"),
		vaultsOf(kinds, "@0 S01(S00(3) -)", "@0 S20(4)", "@1 S00(9)", "@1 S20(3)", "@2 S01(S00(3) -)", "@2 S10(1000000 +)"),
	}
}

// TestDealsApartEvery takes each two deals of all functions.
func TestDealsApartEvery(t *testing.T) {
	deals := everyDeal()
	c := tally{}
	for _, vaults := range vaultsDeals() {
		for k, a := range deals {
			for _, b := range deals[:k+1] {
				c.count(checkApart(t, shelfDeals(), vaults, a, b))
			}
		}
	}
	c.enough(t, 500, 200)
}

// cloneDeals returns a copy of deals, whose lists have room behind them that is empty.
func cloneDeals(deals []impl.Deal) []impl.Deal {
	copied := make([]impl.Deal, 0, len(deals)+2)
	for _, d := range deals {
		d.Args = cloneAsked(asked{args: d.Args}).args
		copied = append(copied, d)
	}
	return copied
}

// sameDeals reports whether deals are the same, and nothing was written behind the first ones.
func sameDeals(a []impl.Deal, b []impl.Deal) bool {
	for _, d := range a[len(a):cap(a)] {
		if !reflect.DeepEqual(d, impl.Deal{}) {
			return false
		}
	}
	return slices.EqualFunc(a, b, func(d impl.Deal, e impl.Deal) bool {
		for _, v := range d.Args[len(d.Args):cap(d.Args)] {
			if !reflect.DeepEqual(v, impl.Value{}) {
				return false
			}
		}
		isSame := d.Owner == e.Owner && d.M == e.M && d.F == e.F && d.Fuel == e.Fuel && sameValues(d.Args, e.Args)
		return isSame && !slices.ContainsFunc(d.Args, func(v impl.Value) bool { return !isRoomyValue(v) })
	})
}

func TestDealsKeepArguments(t *testing.T) {
	for _, is := range runsChanging() {
		a, deals := cloneAsked(is), []impl.Deal{is.deal(), is.deal(), {}}
		stays := func(name string, given []impl.Deal) {
			t.Helper()
			if a.stays(t, name, is); !sameDeals(given, deals[:len(given)]) {
				t.Fatalf("%s changed %v to %v", name, deals, given)
			}
		}
		given := cloneDeals(deals)
		impl.DealRun(a.shelf, a.vaults, given[0])
		stays("DealRun", given)
		impl.DealTouches(a.shelf, a.vaults, given[0])
		stays("DealTouches", given)
		impl.DealChanges(a.shelf, a.vaults, given[0])
		stays("DealChanges", given)
		impl.DealsRun(a.shelf, a.vaults, given)
		stays("DealsRun", given)
		impl.DealsApart(a.shelf, a.vaults, given[0], given[1])
		stays("DealsApart", given)
		impl.DealsRun(a.shelf, a.vaults, given[:0])
		stays("DealsRun of a row without deals", given)
		impl.DealsRun(a.shelf, a.vaults, slices.Repeat(given, 3))
		stays("DealsRun of too many", given)
	}
}

// TestDealsResultsApart changes results, and holds that neither what was asked with nor other results are changed.
func TestDealsResultsApart(t *testing.T) {
	told := tally{}
	for _, is := range runsChanging() {
		a := cloneAsked(is)
		want := a.wanted()
		for many := range 4 {
			deals := slices.Repeat([]impl.Deal{a.deal()}, many)
			wantNow, wantCodes := rowWanted(is.shelf, is.vaults, slices.Repeat([]impl.Deal{is.deal()}, many))
			now, codes := impl.DealsRun(a.shelf, a.vaults, deals)
			for k := range now {
				spoilValue(&now[k].Of)
				if !sameKept(now[k+1:], wantNow[k+1:]) {
					t.Fatalf("a change in vaults behind %v changed %v", is, now)
				}
			}
			spoilKept(now)
			for k := range codes {
				codes[k] = 99
			}
			a.stays(t, "a change of vaults and codes", is)
			if again, others := impl.DealsRun(a.shelf, a.vaults, deals); !sameKept(again, wantNow) || !slices.Equal(others, wantCodes) {
				t.Fatalf("a change of what DealsRun told goes through to %v and %v", again, others)
			}
		}
		touched, changed := a.touches(), a.changes()
		for _, list := range [][]string{touched, changed, a.touches(), a.changes()} {
			for k := range list {
				list[k] = "x"
			}
			_ = append(list[:0], "y")
		}
		out := impl.DealRun(a.shelf, a.vaults, a.deal())
		spoilKept(out.Vaults)
		for k := range out.Rets {
			spoilValue(&out.Rets[k])
		}
		a.stays(t, "a change of results", is)
		told.count(len(want.changed) > 0)
		if a.checkSpots(t); t.Failed() {
			t.Fatalf("a change of results goes through")
		}
	}
	told.enough(t, 20, 50)
}

// TestDealsShared takes a row of deals that were given the same record as an argument, and leave it with several owners.
func TestDealsShared(t *testing.T) {
	a := askedOf(" / func 2 S10 o : : :; move 0; move 1; keep 0; ret", "S10(4 +); @0", "")
	other := a.deal()
	other.Args = []impl.Value{a.args[0], owner(3)}
	now, codes := checkDeals(t, a.shelf, nil, []impl.Deal{a.deal(), other})
	if !slices.Equal(codes, []int{0, 0}) || keptText(now) != "@0 S10(4 +); @3 S10(4 +)" {
		t.Fatalf("the row ended with %v, and left %q", codes, keptText(now))
	}
	now[0].Of.Parts[0].N = 9
	if keptText(now) != "@0 S10(9 +); @3 S10(4 +)" || a.args[0].Parts[0].N != 4 {
		t.Errorf("a change in the first vault led to %q, and %v", keptText(now), a.args)
	}
}

// dealsPromised are deals of all sorts, some of which cannot begin.
func dealsPromised(seed int64) []asked {
	deals := slices.Concat(runsPromised(seed), someAsking(seed+3, 150))
	for _, vaults := range vaultsDeals() {
		for _, d := range everyDeal() {
			deals = append(deals, askedDeal(shelfDeals(), vaults, d))
		}
	}
	return deals
}

func TestPromise53(t *testing.T) {
	c, begins := tally{}, tally{}
	for _, a := range dealsPromised(531) {
		got, want := impl.DealRun(a.shelf, a.vaults, a.deal()), a.run()
		begins.count(want.Code != impl.EndNone)
		if c.count(want.Code == impl.EndDone); !sameOutcome(got, want) {
			t.Errorf("DealRun told %v, and CallRun %v of %v", got, want, a)
		}
	}
	for _, a := range runsNone() {
		if got := impl.DealRun(a.shelf, a.vaults, a.deal()); !sameOutcome(got, a.run()) || got.Code != impl.EndNone {
			t.Errorf("DealRun told %v of %v", got, a)
		}
	}
	begins.enough(t, 500, 100)
	c.enough(t, 300, 300)
}

func TestPromise54(t *testing.T) {
	many, change := tally{}, tally{}
	for _, a := range dealsPromised(541) {
		touched, changed := a.touches(), a.changes()
		many.count(len(touched) > 1)
		change.count(len(changed) > 0)
		for _, list := range [][]string{touched, changed} {
			if !slices.IsSorted(list) || len(slices.Compact(slices.Clone(list))) != len(list) {
				t.Errorf("spots do not ascend: %q of %v", list, a)
			}
		}
		for _, spot := range changed {
			if !slices.Contains(touched, spot) {
				t.Errorf("%s is changed, and not touched: %q by %v", spot, touched, a)
			}
		}
	}
	many.enough(t, 60, 300)
	change.enough(t, 100, 300)
}

// changedOf are the spots at which vaults differ.
func changedOf(before []impl.Kept, behind []impl.Kept) []string {
	spots := map[string]bool{}
	for _, pair := range [][2][]impl.Kept{{before, behind}, {behind, before}} {
		for _, kept := range pair[0] {
			if v, ok := getWanted(pair[1], kept.Owner, kept.Of.Type); !ok || !sameValue(v, kept.Of) {
				spots[strconv.Itoa(kept.Owner)+kept.Of.Type] = true
			}
		}
	}
	return slices.Sorted(maps.Keys(spots))
}

func TestPromise55(t *testing.T) {
	done, change := tally{}, tally{}
	for _, a := range dealsPromised(551) {
		out := impl.DealRun(a.shelf, a.vaults, a.deal())
		if done.count(out.Code == impl.EndDone); out.Code != impl.EndDone {
			continue
		}
		changed := a.changes()
		for _, spot := range changedOf(a.vaults, out.Vaults) {
			if !slices.Contains(changed, spot) {
				t.Errorf("%s is not as it was, and not among %q: %v", spot, changed, a)
			}
		}
		change.count(len(changedOf(a.vaults, out.Vaults)) > 0)
	}
	done.enough(t, 600, 500)
	change.enough(t, 100, 500)
}

func TestPromise56(t *testing.T) {
	r := rand.New(rand.NewSource(561))
	c := tally{}
	for k := range 200 {
		shelf, deals, vaults := shelfDeals(), []impl.Deal{}, pick(r, vaultsDeals())
		if k%2 == 0 {
			shelf = someVaultShelf(r, runSort(k/2%3))
			deals, vaults = someDeals(r, shelf), someVaults(r, shelf)
		}
		for len(deals) < 8 {
			deals = append(deals, pick(r, everyDeal()))
		}
		deals = deals[:r.Intn(9)]
		all, codes := impl.DealsRun(shelf, vaults, deals)
		for half := range len(deals) + 1 {
			first, firstCodes := impl.DealsRun(shelf, vaults, deals[:half])
			second, secondCodes := impl.DealsRun(shelf, first, deals[half:])
			if !sameKept(second, all) || !slices.Equal(slices.Concat(firstCodes, secondCodes), codes) || len(codes) != len(deals) {
				t.Errorf("%v ended with %v, and in two rows with %v and %v", deals, codes, firstCodes, secondCodes)
			}
			c.count(!sameKept(vaults, first) && !sameKept(first, second))
		}
	}
	c.enough(t, 100, 300)
}

// orderMatters reports whether two deals lead to other vaults, or end with other codes, in the other order.
func orderMatters(shelf []impl.Module, vaults []impl.Kept, a impl.Deal, b impl.Deal) bool {
	one, codes := impl.DealsRun(shelf, vaults, []impl.Deal{a, b})
	other, others := impl.DealsRun(shelf, vaults, []impl.Deal{b, a})
	return !sameKept(one, other) || !slices.Equal(codes, []int{others[1], others[0]})
}

func TestPromise57(t *testing.T) {
	apart, matters := tally{}, tally{}
	hold := func(shelf []impl.Module, vaults []impl.Kept, a impl.Deal, b impl.Deal) {
		isApart, itMatters := impl.DealsApart(shelf, vaults, a, b), orderMatters(shelf, vaults, a, b)
		apart.count(isApart)
		if matters.count(itMatters); isApart && itMatters {
			t.Errorf("%v and %v are apart, and their order matters over %v", a, b, vaults)
		}
	}
	for _, vaults := range vaultsDeals() {
		for k, a := range everyDeal() {
			for _, b := range everyDeal()[:k] {
				hold(shelfDeals(), vaults, a, b)
				hold(shelfDeals(), vaults, b, a)
			}
		}
	}
	apart.enough(t, 1500, 150)
	matters.enough(t, 80, 300)
	r := rand.New(rand.NewSource(571))
	for k := range 240 {
		shelf := someVaultShelf(r, runSort(k%3))
		vaults, deals := someVaults(r, shelf), someDeals(r, shelf)
		for n, a := range deals {
			hold(shelf, vaults, a, deals[(n+1)%len(deals)])
			hold(shelf, vaults, deals[(n+3)%len(deals)], a)
		}
	}
}

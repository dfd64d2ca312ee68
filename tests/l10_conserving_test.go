package tests

import (
	"math/rand"
	"slices"
	"strconv"
	"strings"
	"testing"

	"loop.example/heirlooms/impl"
)

func (a asked) packs(kind string) (int, int) {
	return impl.CallPacks(a.shelf, a.vaults, a.owner, a.m, a.f, a.args, a.fuel, kind)
}

func (a asked) more(kind string) (int, bool) {
	return impl.CallMore(a.shelf, a.vaults, a.owner, a.m, a.f, a.args, a.fuel, kind)
}

func (a asked) modules() []int {
	return impl.CallModules(a.shelf, a.vaults, a.owner, a.m, a.f, a.args, a.fuel)
}

func (a asked) deep() int {
	return impl.CallDeep(a.shelf, a.vaults, a.owner, a.m, a.f, a.args, a.fuel)
}

// hasKind tells by the document's words whether a text is a kind of good kinds.
func hasKind(kinds [][]impl.Record, text string) bool {
	for m, records := range kinds {
		for k := range records {
			if text == "S"+strconv.Itoa(m)+strconv.Itoa(k) {
				return true
			}
		}
	}
	return false
}

// safeWanted tells by the document's words whether a text is a kind of a shelf that can neither be copied nor dropped.
func safeWanted(shelf []impl.Module, text string) bool {
	kinds := stand{shelf: shelf}.kinds()
	if !shapeWanted(shelf) || !hasKind(kinds, text) {
		return false
	}
	able := ableWanted(kinds, text)
	return able&1 == 0 && able&2 == 0
}

// heldWanted tells how many records of a kind there are in good vaults and values.
func heldWanted(vaults []impl.Kept, values []impl.Value, kind string) int {
	for _, v := range values {
		vaults = append(slices.Clone(vaults), impl.Kept{Of: v})
	}
	return countWanted(vaults, kind)
}

// moreWanted tells by the document's words how many more records of a kind there are behind a run.
func (a asked) moreWanted(out impl.Outcome, kind string) (int, bool) {
	if out.Code != impl.EndDone || !hasKind(a.kinds(), kind) {
		return 0, false
	}
	return heldWanted(out.Vaults, out.Rets, kind) - heldWanted(a.vaults, a.args, kind), true
}

// checkMade holds what is made in a run against what the document's words tell of it, and returns that.
func (a asked) checkMade(t *testing.T) ran {
	t.Helper()
	want := a.wanted()
	for _, kind := range append(kindTexts(), "", "S03", "&S00", "n") {
		packs, unpacks := a.packs(kind)
		if packs != want.made["pack "+kind] || unpacks != want.made["unpack "+kind] {
			t.Errorf("CallPacks of %v and %q told %d and %d, not %v", a, kind, packs, unpacks, want.made)
		}
		more, ok := a.more(kind)
		if n, is := a.moreWanted(want.out, kind); more != n || ok != is {
			t.Errorf("CallMore of %v and %q told %d %v, not %d %v", a, kind, more, ok, n, is)
		}
	}
	if modules := a.modules(); !slices.Equal(modules, want.modules) {
		t.Errorf("CallModules of %v told %v, not %v", a, modules, want.modules)
	}
	if deep := a.deep(); deep != want.deep {
		t.Errorf("CallDeep of %v told %d, not %d", a, deep, want.deep)
	}
	return want
}

// madeText is a text of what is made in a run: of each kind of which there is something how often it is packed, `-`, how often it is unpacked, `=`, and how many more there are, or `?`; `/`, the modules, `/`, and how deep it is.
func (a asked) madeText() string {
	words := []string{}
	for _, kind := range kindTexts() {
		packs, unpacks := a.packs(kind)
		more, ok := a.more(kind)
		is := strconv.Itoa(more)
		if !ok {
			is = "?"
		}
		if packs != 0 || unpacks != 0 || more != 0 {
			words = append(words, kind+" "+strconv.Itoa(packs)+"-"+strconv.Itoa(unpacks)+"="+is)
		}
	}
	text := strings.Join(words, ", ") + " /"
	for _, m := range a.modules() {
		text += " " + strconv.Itoa(m)
	}
	return text + " / " + strconv.Itoa(a.deep())
}

// A madeRow is a run, and what is made in it (madeText).
type madeRow struct{ funcs, args, vaults, made string }

// checkRowsMade holds what is made in runs of shelves with such records and friends against rows.
func checkRowsMade(t *testing.T, heads []string, rows []madeRow) {
	t.Helper()
	for _, row := range rows {
		a := askedIn(heads, row.funcs, row.args, row.vaults)
		if a.checkMade(t); a.madeText() != row.made {
			t.Errorf("the run of %q with %q over %q made %q, not %q", row.funcs, row.args, row.vaults, a.madeText(), row.made)
		}
	}
}

// TestKindSafeAble takes kinds with each sum of abilities, of each module, and types that are no records.
func TestKindSafeAble(t *testing.T) {
	for m := range 3 {
		for able := -1; able <= 17; able++ {
			shelf := make([]impl.Module, 3)
			shelf[m].Records = []impl.Record{rec(able)}
			kind := "S" + strconv.Itoa(m) + "0"
			want := able >= 0 && able <= 15 && able&1 == 0 && able&2 == 0
			if got := impl.KindSafe(shelf, kind); got != want || got != safeWanted(shelf, kind) {
				t.Errorf("KindSafe of %s with the abilities %d told %v", kind, able, got)
			}
		}
	}
	safe := map[string]bool{"S01": true, "S11": true, "S12": true}
	for _, kind := range append(kindTexts(), kindsNone()...) {
		for _, sign := range []string{"", "&", "!", "S"} {
			if got := impl.KindSafe(runShelf(""), sign+kind); got != (safe[kind] && sign == "") {
				t.Errorf("KindSafe of %q told %v", sign+kind, got)
			}
		}
	}
}

// TestKindSafeFields takes kinds that hang on those that are their fields, or not.
func TestKindSafeFields(t *testing.T) {
	shelf := []impl.Module{{Records: []impl.Record{rec(12, "n"), rec(15, "n"), rec(7, "n")}}, {Records: []impl.Record{rec(12, "S00"), rec(0, "S01"), rec(2, "S02", "S01")}}, {Records: []impl.Record{rec(4, "S10", "S01"), rec(1, "S01"), rec(3, "S02")}}}
	safe := map[string]bool{"S00": true, "S10": true, "S11": true, "S20": true}
	for _, kind := range kindTexts() {
		if impl.KindSafe(shelf, kind) != safe[kind] {
			t.Errorf("KindSafe of %s told %v", kind, !safe[kind])
		}
	}
	shelf[2].Records[2].Able = 4 // no module has its shape any more
	shelf[2].Records = append(shelf[2].Records, rec(4))
	for _, kind := range kindTexts() {
		if impl.KindSafe(shelf, kind) {
			t.Errorf("KindSafe of %s of too many records holds", kind)
		}
	}
}

// TestKindSafeShelf takes shelves without their shape, shelves that have it and are not good, and such that are good.
func TestKindSafeShelf(t *testing.T) {
	for name, shelf := range shelvesNoShape() {
		for _, kind := range kindTexts() {
			if impl.KindSafe(shelf, kind) {
				t.Errorf("%s: KindSafe of %s holds", name, kind)
			}
		}
	}
	for funcs, good := range map[string]bool{"": true, "func 2 : : :; ret": true, "func 2 : : :; add": false, "func 2 S01 : : :; ret": false, "func 0 : : :; ret / func 2 : : :; call 0 0; ret": false} {
		shelf := runShelf(funcs)
		if impl.ShelfGood(shelf) != good || !impl.KindSafe(shelf, "S01") || !impl.KindSafe(shelf, "S12") || impl.KindSafe(shelf, "S00") || impl.KindSafe(shelf, "S22") {
			t.Errorf("%q: KindSafe told of S01 %v", funcs, impl.KindSafe(shelf, "S01"))
		}
	}
	if impl.KindSafe(nil, "S00") || impl.KindSafe(nil, "") || impl.KindSafe([]impl.Module{{}}, "S00") {
		t.Error("KindSafe holds without kinds")
	}
}

// headsWithin are kinds that have each other as fields at many depths, and can neither be copied nor dropped.
func headsWithin() []string {
	return []string{"record 12 n\nrecord 12 S00\nrecord 12 S01 S00\n", "record 12 S02 S01\nrecord 12 S10 S00\nrecord 12\n", "record 12 S11 S10\n"}
}

// funcsWithin are functions of the first two modules of headsWithin, which make records of the numbers that are their arguments, and take them apart.
func funcsWithin() string {
	return "func 2 n : S00 : :; move 0; pack 0; ret; func 2 n : S01 : :; move 0; pack 0; pack 1; ret; func 2 n : S02 : :; copy 0; pack 0; pack 1; copy 0; pack 0; pack 2; ret; func 2 S02 : S01 S00 : :; move 0; unpack 2; ret" +
		" / func 2 n : S10 : :; copy 0; call 0 2; copy 0; call 0 1; pack 0; ret; func 2 n : S11 : :; copy 0; call 1 0; copy 0; call 0 0; pack 1; ret; func 2 S11 : S10 S00 : :; move 0; unpack 1; ret; func 2 S10 : S02 S01 : :; move 0; unpack 0; ret / "
}

// TestMadeWithin takes records within records, at several depths.
func TestMadeWithin(t *testing.T) {
	zero := "S00(4)"
	one := "S01(" + zero + ")"
	two := "S02(" + one + " " + zero + ")"
	ten := "S10(" + two + " " + one + ")"
	eleven := "S11(" + ten + " " + zero + ")"
	twenty := "S20(" + eleven + " " + ten + ")"
	first, _, _ := strings.Cut(funcsWithin(), " / ")
	checkRowsMade(t, headsWithin(), []madeRow{
		{first, "4", "", "S00 1-0=1 / 0 / 1"},
		{funcsWithin() + "func 2 n : S01 : :; move 0; call 0 1; ret", "4", "", "S00 1-0=1, S01 1-0=1 / 0 2 / 2"},
		{funcsWithin() + "func 2 n : S02 : :; move 0; call 0 2; ret", "4", "", "S00 2-0=2, S01 1-0=1, S02 1-0=1 / 0 2 / 2"},
		{funcsWithin() + "func 2 n : S10 : :; move 0; call 1 0; ret", "4", "", "S00 3-0=3, S01 2-0=2, S02 1-0=1, S10 1-0=1 / 0 1 2 / 3"},
		{funcsWithin() + "func 2 n : S20 : :; copy 0; call 1 1; copy 0; call 1 0; pack 0; ret", "4", "", "S00 7-0=7, S01 4-0=4, S02 2-0=2, S10 2-0=2, S11 1-0=1, S20 1-0=1 / 0 1 2 / 4"},
		{funcsWithin() + "func 2 n : : : 0; copy 0; call 1 1; copy 0; call 1 0; pack 0; me; keep 0; ret", "4", "@1 " + twenty, "S00 7-0=7, S01 4-0=4, S02 2-0=2, S10 2-0=2, S11 1-0=1, S20 1-0=1 / 0 1 2 / 4"},
		{funcsWithin() + "func 2 n : : : 0; copy 0; call 1 1; copy 0; call 1 0; pack 0; me; keep 0; ret", "4", "@2 " + twenty, "S00 7-0=?, S01 4-0=?, S02 2-0=?, S10 2-0=?, S11 1-0=?, S20 1-0=? / 0 1 2 / 4"},
		// What is in vaults or arguments already, and stays there or is handed back.
		{funcsWithin() + "func 2 S20 : S20 : :; move 0; ret", twenty, "", " / 2 / 1"},
		{funcsWithin() + "func 2 S20 : : :; move 0; me; keep 0; ret", twenty, "@3 " + twenty, " / 2 / 1"},
		{funcsWithin() + "func 2 : S20 : : 0; me; take 0; ret", "", "@2 " + twenty + "; @3 " + twenty, " / 2 / 1"},
		{funcsWithin() + "func 2 o : : : 0; me; take 0; move 0; keep 0; ret", "@1", "@2 " + twenty, " / 2 / 1"},
		{funcsWithin() + "func 2 S20 : S20 : : 0; me; take 0; move 0; me; keep 0; ret", twenty, "@2 " + twenty, " / 2 / 1"},
		{funcsWithin() + "func 2 S00 S01 : S01 S00 : :; move 1; move 0; ret", zero + "; " + one, "@0 " + zero + "; @0 " + ten, " / 2 / 1"},
		// Taken apart, as far as it goes, and put together again.
		{funcsWithin() + "func 2 S20 : S11 S10 : :; move 0; unpack 0; ret", twenty, "", "S20 0-1=-1 / 2 / 1"},
		{funcsWithin() + "func 2 : S11 S10 : : 0; me; take 0; unpack 0; ret", "", "@2 " + twenty + "; @3 " + twenty, "S20 0-1=-1 / 2 / 1"},
		{funcsWithin() + "func 2 S20 : S10 S00 S10 : S10 :; move 0; unpack 0; put 1; call 1 2; move 1; ret", twenty, "", "S11 0-1=-1, S20 0-1=-1 / 1 2 / 2"},
		{funcsWithin() + "func 2 S10 : S01 S00 S01 : S01 :; move 0; call 1 3; put 1; call 0 3; move 1; ret", ten, "", "S02 0-1=-1, S10 0-1=-1 / 0 1 2 / 2"},
		{funcsWithin() + "func 2 S20 : S20 : :; move 0; unpack 0; pack 0; unpack 0; pack 0; ret", twenty, "", "S20 2-2=0 / 2 / 1"},
		{funcsWithin() + "func 2 S20 n : S20 : S10 :; move 0; unpack 0; put 2; call 1 2; unpack 0; move 2; pack 0; ret", twenty + "; 4", "", "S11 0-1=?, S20 0-1=? / 1 2 / 2"},
		// What is written into a record within.
		{"func 2 S02 : S02 : :; lendw 0; field 0 2; field 0 1; field 0 0; num 9; write; move 0; ret", two, "", " / 0 / 1"},
		{"func 2 S02 : S02 : :; lendw 0; field 0 2; field 0 1; num 9; pack 0; write; move 0; ret", two, "", "S00 1-0=? / 0 / 1"},
	})
}

// TestMadeAble takes kinds of which each can be copied alone, dropped alone, both, or neither: what is copied is more, and what is dropped less, than was packed and unpacked.
func TestMadeAble(t *testing.T) {
	heads := []string{"record 12 n\nrecord 13 n\nrecord 14 n\n", "record 15 n\nrecord 12 S00 n\nrecord 12 S02\n"}
	checkRowsMade(t, heads, []madeRow{
		{"func 2 n : S00 : :; move 0; pack 0; ret", "4", "", "S00 1-0=1 / 0 / 1"},
		{"func 2 n : S01 : :; move 0; pack 1; ret", "4", "", "S01 1-0=1 / 0 / 1"},
		{"func 2 n : S02 : :; move 0; pack 2; ret", "4", "", "S02 1-0=1 / 0 / 1"},
		{" / func 2 n : S10 : :; move 0; pack 0; ret", "4", "", "S10 1-0=1 / 1 / 1"},
		{"func 2 n : S01 S01 : S01 :; move 0; pack 1; put 1; copy 1; move 1; ret", "4", "", "S01 1-0=2 / 0 / 1"},
		{"func 2 S01 : S01 S01 S01 : :; copy 0; copy 0; move 0; ret", "S01(4)", "", "S01 0-0=2 / 0 / 1"},
		{"func 2 o : S01 : :; move 0; see 1; read; ret", "@1", "@1 S01(4)", "S01 0-0=1 / 0 / 1"},
		{"func 2 n : : :; move 0; pack 2; drop; ret", "4", "", "S02 1-0=0 / 0 / 1"},
		{"func 2 S02 : : :; ret", "S02(4)", "", "S02 0-0=-1 / 0 / 1"},
		{"func 2 o : : :; move 0; take 2; drop; ret", "@1", "@1 S02(4)", "S02 0-0=-1 / 0 / 1"},
		{"func 2 S02 n : S02 : :; lendw 0; move 1; pack 2; write; move 0; ret", "S02(4); 5", "", "S02 1-0=0 / 0 / 1"},
		{" / func 2 S10 : S10 S10 : :; copy 0; drop; copy 0; copy 0; drop; copy 0; ret", "S10(4)", "", "S10 0-0=1 / 1 / 1"},
		{" / func 2 S10 : n : :; move 0; unpack 0; ret", "S10(4)", "", "S10 0-1=-1 / 1 / 1"},
		{"func 2 S00 : n : :; move 0; unpack 0; ret", "S00(4)", "", "S00 0-1=-1 / 0 / 1"},
		{" / func 2 S12 : S12 : :; move 0; ret", "S12(S02(4))", "", " / 1 / 1"},
		{" / func 2 S12 : : :; move 0; unpack 2; drop; ret", "S12(S02(4))", "", "S02 0-0=-1, S12 0-1=-1 / 1 / 1"},
		// Such that lacks the ability is not copied or dropped.
		{"func 2 S00 : S00 S00 : :; copy 0; copy 0; ret", "S00(4)", "", " / 0 / 1"},
		{"func 2 S00 : : :; ret", "S00(4)", "", " / 0 / 1"},
		{"func 2 n : : :; move 0; pack 0; drop; ret", "4", "", "S00 1-0=? / 0 / 1"},
		{"func 2 n : : S01 :; move 0; pack 1; put 1; copy 1; drop; ret", "4", "", "S01 1-0=? / 0 / 1"},
	})
}

// TestMadeModule takes kinds of other modules, which have records with the same numbers, and none of which packs a record of another one.
func TestMadeModule(t *testing.T) {
	heads := []string{"record 12 n\nrecord 15 b\n", "record 12 n\nrecord 15 b\n", "record 12 n\nrecord 15 b\n"}
	for m := range 3 {
		a := askedIn(heads, strings.Repeat(" / ", m)+"func 2 n : S"+strconv.Itoa(m)+"0 : :; true; pack 1; unpack 1; drop; move 0; pack 0; ret", "4", "")
		a.checkMade(t)
		n := strconv.Itoa(m)
		if want := "S" + n + "0 1-0=1, S" + n + "1 1-1=0 / " + n + " / 1"; a.madeText() != want {
			t.Errorf("the module %d made %q", m, a.madeText())
		}
		for _, kind := range append(kindsNone(), "S02", "S12", "S20 ", "s00", "pack S00", " S00", "S0", "S") {
			packs, unpacks := a.packs(kind)
			if more, ok := a.more(kind); packs != 0 || unpacks != 0 || more != 0 || ok {
				t.Errorf("of %q, which is no kind, there are told %d %d %d %v", kind, packs, unpacks, more, ok)
			}
		}
		for _, kind := range []string{"S00", "S01", "S10", "S11", "S20", "S21"} {
			if more, ok := a.more(kind); !ok || kind[1:2] != n && more != 0 {
				t.Errorf("CallMore of %s behind a run of the module %d told %d %v", kind, m, more, ok)
			}
		}
	}
}

// TestMadeEnds takes runs that end in each way, behind packs and unpacks, which are told all the same.
func TestMadeEnds(t *testing.T) {
	for ends, code := range map[string]int{
		"ret": 0, "num 3; fail": 1, "jump 8": 2, "num 0; num 1; sub": 3, "me; take 0": 4, "num 3; pack 0; me; keep 0": 4, "call 0 0": 5, "add": 6, "jump 39": 6, "copy 5": 6, "me; see 0": 4,
	} {
		a := askedOf("func 2 n : S01 : S01 :; copy 0; pack 0; true; pack 1; unpack 1; pack 1; put 1; move 1; "+ends, "4", "")
		if strings.Contains(ends, "keep") {
			a.vaults = vaultsOf(a.kinds(), "@2 S00(5)")
		}
		if code == 5 {
			a = askedOf("func 2 n : S01 : S01 :; copy 0; pack 0; true; pack 1; unpack 1; pack 1; put 1; copy 0; call 0 0", "4", "")
		}
		out := a.checkMade(t).out
		packs, unpacks := a.packs("S01")
		more, ok := a.more("S01")
		times := map[bool]int{true: 6, false: 1}[code == 5]
		if out.Code != code || packs != 2*times || unpacks != times || ok != (code == 0) || ok && more != 1 || !ok && more != 0 {
			t.Errorf("%q ended with %d, and told %d packs, %d unpacks, and %d %v", ends, out.Code, packs, unpacks, more, ok)
		}
	}
}

// TestMadeLast takes packs and unpacks with which a run ends, and such that have just fuel, or none: those count for which all that is needed was taken off.
func TestMadeLast(t *testing.T) {
	full := strings.Repeat("num 1; ", 12)
	for _, row := range []struct {
		funcs string
		fuel  int
		code  int
		made  string
	}{
		{"func 2 : S00 : :; num 1; pack 0; ret", 1, 2, " / 0 / 1"},
		{"func 2 : S00 : :; num 1; pack 0; ret", 2, 2, "S00 1-0=? / 0 / 1"},
		{"func 2 : S00 : :; num 1; pack 0; ret", 3, 0, "S00 1-0=1 / 0 / 1"},
		{"func 2 : n : :; num 1; pack 0; unpack 0; ret", 2, 2, "S00 1-0=? / 0 / 1"},
		{"func 2 : n : :; num 1; pack 0; unpack 0; ret", 3, 2, "S00 1-1=? / 0 / 1"},
		{"func 2 : n : :; num 1; pack 0; unpack 0; ret", 4, 0, "S00 1-1=0 / 0 / 1"},
		{"func 2 : n : :; num 1; pack 0", 9, 6, "S00 1-0=? / 0 / 1"},
		{"func 2 : n : :; num 1; pack 0; unpack 0", 9, 6, "S00 1-1=? / 0 / 1"},
		// What is needed is not there.
		{"func 2 : n : :; pack 0; ret", 9, 6, " / 0 / 1"},
		{"func 2 : n : :; true; pack 0; ret", 9, 6, " / 0 / 1"},
		{"func 2 : n : :; num 1; pack 0; pack 0; ret", 9, 6, "S00 1-0=? / 0 / 1"},
		{"func 2 : n : :; num 1; pack 0; num 1; pack 1; ret", 9, 6, "S00 1-0=? / 0 / 1"},
		{"func 2 : n : :; true; pack 1; ret", 9, 6, " / 0 / 1"},
		{"func 2 : n : :; unpack 0; ret", 9, 6, " / 0 / 1"},
		{"func 2 : n : :; num 1; unpack 0; ret", 9, 6, " / 0 / 1"},
		{"func 2 : n : :; num 1; pack 0; unpack 1; ret", 9, 6, "S00 1-0=? / 0 / 1"},
		{"func 2 : n : :; num 1; pack 0; unpack 2; ret", 9, 6, "S00 1-0=? / 0 / 1"},
		{" /  / func 2 : n : :; num 1; pack 2; ret", 9, 6, " / 2 / 1"},
		{" / func 2 S01 : n : :; move 0; unpack 1; ret", 9, 6, " / 1 / 1"},
		// There is no room for what comes of it.
		{" / func 2 : : :; " + full + "drop; pack 2; fail", 99, 6, "S12 1-0=? / 1 / 1"},
		{" / func 2 : : :; " + full + "pack 2; fail", 99, 6, "S12 1-0=? / 1 / 1"},
		{" / func 2 : : :; " + full + "pack 2; fail", 12, 2, " / 1 / 1"},
		{" / func 2 : : :; " + full + "drop; true; pack 0; unpack 0; unpack 0; fail", 99, 6, "S10 1-1=? / 1 / 1"},
		{" / func 2 S10 : : :; " + full + "drop; move 0; unpack 0; fail", 99, 6, "S10 0-1=? / 1 / 1"},
		{" / func 2 S10 : : :; " + full + "drop; drop; move 0; unpack 0; fail", 99, 6, "S10 0-1=? / 1 / 1"},
		{" / func 2 S10 : : :; " + full + "drop; drop; move 0; unpack 0; drop; fail", 99, 1, "S10 0-1=? / 1 / 1"},
	} {
		a := askedOf(row.funcs, "", "")
		for _, t := range a.shelf[a.m].Funcs[0].Args {
			a.args = append(a.args, read(a.kinds(), map[string]string{"S01": "S01(S00(4) +)", "S10": "S10(4 +)"}[t]))
		}
		a.fuel = row.fuel
		if out := a.checkMade(t).out; out.Code != row.code || a.madeText() != row.made {
			t.Errorf("%q with %d of fuel ended with %d, and made %q", row.funcs, row.fuel, out.Code, a.madeText())
		}
	}
}

// TestMadeModules takes runs in which several modules do instructions, or are called and have none left to do.
func TestMadeModules(t *testing.T) {
	up := "func 2 : : :; num 1; drop; ret / func 2 : : :; call 0 0; ret / func 2 : : :; call 1 0; num 1; drop; ret"
	for fuel, made := range []string{
		" / / 1", " / 2 / 2", " / 1 2 / 3", " / 0 1 2 / 3", " / 0 1 2 / 3", " / 0 1 2 / 3", " / 0 1 2 / 3", " / 0 1 2 / 3",
	} {
		a := askedOf(up, "", "")
		a.fuel = fuel
		if a.checkMade(t); a.madeText() != made {
			t.Errorf("with %d of fuel there was made %q", fuel, a.madeText())
		}
	}
	checkRowsMade(t, headsRun(), []madeRow{
		{"func 2 : : :; ret", "", "", " / 0 / 1"},
		{" / func 2 : : :; ret", "", "", " / 1 / 1"},
		{" /  / func 2 : : :; ret", "", "", " / 2 / 1"},
		{"func 2 : : :; ret /  / func 2 : : :; call 0 0; ret", "", "", " / 0 2 / 2"},
		{" / func 2 : : :; ret / func 2 : : :; call 1 0; ret", "", "", " / 1 2 / 2"},
		{"func 2 : : :; ret / func 2 : : :; ret / func 2 : : :; ret", "", "", " / 2 / 1"},
		{"func 2 : : :; ret / func 2 : : :; ret / func 2 : : :; call 1 0; call 0 0; call 1 0; ret", "", "", " / 0 1 2 / 2"},
		{"func 2 : : :; ret / func 2 : : :; ret / func 2 b : : :; copy 0; zero 3; call 0 0; ret", "+", "", " / 0 2 / 2"},
		{"func 2 : : :; ret / func 2 : : :; ret / func 2 b : : :; copy 0; zero 3; call 0 0; ret", "-", "", " / 2 / 1"},
		{"func 2 : : :; call 0 1; ret; func 0 : : :; ret /  / func 2 : : :; call 0 0; ret", "", "", " / 0 2 / 3"},
		// The instruction with which a run ends is one, too; going beyond the last one is none.
		{"func 2 : : :; num 1; fail / func 2 : : :; call 0 0; ret", "", "", " / 0 1 / 2"},
		{"func 2 : : :; add / func 2 : : :; call 0 0; ret", "", "", " / 0 1 / 2"},
		{"func 2 : : :; jump 2; ret / func 2 : : :; call 0 0; ret", "", "", " / 0 1 / 2"},
		{"func 2 : : :; add / func 2 : : :; add", "", "", " / 1 / 1"},
		// A call that cannot be is one of the module that calls.
		{"func 0 : : :; ret / func 2 : : :; call 0 0; ret", "", "", " / 1 / 1"},
		{"func 2 n : : :; ret / func 2 : : :; call 0 0; ret", "", "", " / 1 / 1"},
		{"func 2 : : :; ret / func 2 : : :; call 0 1; ret", "", "", " / 1 / 1"},
	})
}

// TestMadeDeep takes functions within each other, one behind the other, up to DepthTop, and one too many.
func TestMadeDeep(t *testing.T) {
	down := "func 2 n : n : :; num 0; copy 0; less; zero 8; copy 0; num 1; sub; call 0 0; num 3; ret"
	for n, made := range []string{" / 0 / 1", " / 0 / 2", " / 0 / 3", " / 0 / 4", " / 0 / 5", " / 0 / 6", " / 0 / 6", " / 0 / 6", " / 0 / 6"} {
		checkRowsMade(t, headsRun(), []madeRow{{down, strconv.Itoa(n), "", made}})
		a := askedOf(down, strconv.Itoa(n), "")
		for a.fuel = range a.steps() {
			a.checkMade(t)
		}
	}
	chain := "func 0 : : :; ret; func 0 : : :; call 0 0; ret; func 0 : : :; call 0 1; ret; func 2 : : :; call 0 2; ret / func 0 : : :; call 0 3; ret; func 2 : : :; call 1 0; ret"
	checkRowsMade(t, headsRun(), []madeRow{
		{chain + " / func 2 : : :; call 1 1; ret", "", "", " / 0 1 2 / 6"},
		{strings.Replace(chain, "call 0 0", "jump 1", 1) + " / func 2 : : :; call 1 1; ret", "", "", " / 0 1 2 / 6"},
		{strings.Replace(chain, "call 0 1", "jump 1", 1) + " / func 2 : : :; call 1 1; ret", "", "", " / 0 1 2 / 5"},
		{strings.Replace(chain, "call 0 3", "jump 1", 1) + " / func 2 : : :; call 1 1; ret", "", "", " / 1 2 / 3"},
		{chain + " / func 2 : : :; call 1 1; ret; func 0 : : :; call 2 0; ret", "", "", " / 0 1 2 / 6"},
		{"func 2 : : :; call 0 0", "", "", " / 0 / 6"},
		{"func 2 : : :; call 0 1; call 0 1; call 0 1; call 0 1; call 0 1; call 0 1; call 0 1; ret; func 0 : : :; ret", "", "", " / 0 / 2"},
		{"func 2 : : :; call 0 1; call 0 2; call 0 1; ret; func 0 : : :; ret; func 0 : : :; call 0 1; ret", "", "", " / 0 / 3"},
		{"func 2 : : :; call 0 1; ret; func 0 : : :; call 0 2; ret; func 0 : : :; add", "", "", " / 0 / 3"},
		{"func 2 : : :; call 0 1; ret; func 0 : : :; call 0 2; ret; func 0 n : : :; ret", "", "", " / 0 / 2"},
		{"func 2 : : :; call 0 1; ret; func 0 n : : :; ret", "", "", " / 0 / 1"},
		{"func 2 : : :; call 0 3; ret; func 0 : : :; ret", "", "", " / 0 / 1"},
		{"func 2 : : :; call 0 1; ret; func 0 : n : :; ret", "", "", " / 0 / 2"},
	})
	a := askedOf("func 2 : : :; ret", "", "")
	for a.fuel = range 3 {
		if a.checkMade(t); a.deep() != 1 {
			t.Errorf("with %d of fuel it was %d deep", a.fuel, a.deep())
		}
	}
}

// TestMadeGood takes a good shelf, and one that has its shape and is not good: what is made in a run is told of both, and the second one may lose nothing either.
func TestMadeGood(t *testing.T) {
	good := "func 2 o : S01 : : 1; move 0; take 1; ret"
	for funcs, isGood := range map[string]bool{good: true, good + "; func 2 : : :; add": false, strings.Replace(good, ": 1;", ":;", 1): false, good + "; func 2 : : :; jump 1": false} {
		a := askedOf(funcs, "@1", "@1 S01(S00(4) +); @2 S01(S00(5) -)")
		a.checkMade(t)
		if impl.ShelfGood(a.shelf) != isGood || !impl.ShelfShape(a.shelf) || a.madeText() != " / 0 / 1" || !impl.KindSafe(a.shelf, "S01") {
			t.Errorf("%q is good: %v, and made %q", funcs, impl.ShelfGood(a.shelf), a.madeText())
		}
	}
}

// TestMadeMany takes runs by chance.
func TestMadeMany(t *testing.T) {
	packs, more, deep, modules := tally{}, tally{}, tally{}, tally{}
	for sort := range 3 {
		for _, a := range someRuns(int64(1001+sort), 120, runSort(sort)) {
			told := a.checkMade(t)
			packs.count(len(told.made) > 1)
			deep.count(told.deep > 2)
			modules.count(len(told.modules) > 1)
			for _, kind := range kindTexts() {
				n, _ := a.more(kind)
				more.count(n != 0)
			}
		}
	}
	packs.enough(t, 300, 300)
	more.enough(t, 500, 500)
	deep.enough(t, 100, 300)
	modules.enough(t, 200, 300)
}

// TestMadeNone takes what cannot begin, in each way in which it cannot.
func TestMadeNone(t *testing.T) {
	if got := askedGood(); got.madeText() != "S00 1-0=1 / 0 / 1" {
		t.Errorf("the run made %q", got.madeText())
	}
	for name, a := range runsNone() {
		if a.madeText() != " / / 0" {
			t.Errorf("%s: made %q", name, a.madeText())
		}
		for _, kind := range append(kindTexts(), kindsNone()...) {
			packs, unpacks := a.packs(kind)
			if more, ok := a.more(kind); packs != 0 || unpacks != 0 || more != 0 || ok {
				t.Errorf("%s: told %d %d %d %v of %q", name, packs, unpacks, more, ok, kind)
			}
		}
	}
}

func TestMadeKeepsArguments(t *testing.T) {
	for _, is := range runsChanging() {
		a := cloneAsked(is)
		for _, kind := range []string{"S00", "S01", "S10", "S99", ""} {
			impl.KindSafe(a.shelf, kind)
			a.stays(t, "KindSafe", is)
			a.packs(kind)
			a.stays(t, "CallPacks", is)
			a.more(kind)
			a.stays(t, "CallMore", is)
		}
		modules := a.modules()
		a.stays(t, "CallModules", is)
		a.deep()
		a.stays(t, "CallDeep", is)
		want := slices.Clone(modules)
		for k := range modules {
			modules[k] = 9
		}
		if _ = append(modules[:0], 8); !slices.Equal(a.modules(), want) {
			t.Fatalf("a change of what CallModules told goes through to %v", a.modules())
		}
	}
}

func TestPromise47(t *testing.T) {
	c := tally{}
	r := rand.New(rand.NewSource(471))
	shelves := slices.Concat(shelvesPromised(472), [][]impl.Module{runShelf(""), shelfOf(headsWithin(), "")})
	for _, shelf := range shelves {
		shelf = cloneShelf(shelf)
		for m := range shelf {
			for k := range shelf[m].Records {
				if r.Intn(4) == 0 {
					shelf[m].Records[k].Able = pick(r, []int{0, 4, 8, 12})
				}
			}
		}
		kinds := impl.ShelfKinds(shelf)
		for _, kind := range append(kindTexts(), kindsNone()...) {
			able := impl.TypeAble(kinds, kind)
			isKind := impl.ShelfShape(shelf) && strings.HasPrefix(kind, "S") && able != -1
			want := isKind && able&impl.AbleCopy == 0 && able&impl.AbleDrop == 0
			if c.count(want); impl.KindSafe(shelf, kind) != want {
				t.Errorf("KindSafe of %q of %v told %v", kind, shelf, !want)
			}
		}
	}
	c.enough(t, 100, 1000)
}

func TestPromise48(t *testing.T) {
	c := tally{}
	for _, a := range runsPromised(481) {
		modules := a.modules()
		for _, kind := range kindTexts() {
			packs, unpacks := a.packs(kind)
			c.count(packs+unpacks > 0)
			if packs+unpacks > 0 && !slices.Contains(modules, int(kind[1]-'0')) {
				t.Errorf("%s is packed %d times and unpacked %d times by %v of %v", kind, packs, unpacks, modules, a)
			}
		}
	}
	c.enough(t, 300, 300)
}

func TestPromise49(t *testing.T) {
	c, more, less := tally{}, tally{}, tally{}
	for _, a := range slices.Concat(runsPromised(491), someRuns(494, 150, sortGood)) {
		isGood := impl.ShelfGood(a.shelf)
		for _, kind := range kindTexts() {
			n, ok := a.more(kind)
			if ok != (a.run().Code == impl.EndDone && impl.TypeOk(a.kinds(), kind)) {
				t.Errorf("CallMore of %s told %v of %v", kind, ok, a)
			}
			if c.count(isGood && ok && impl.KindSafe(a.shelf, kind)); !isGood || !ok || !impl.KindSafe(a.shelf, kind) {
				continue
			}
			packs, unpacks := a.packs(kind)
			more.count(n > 0)
			if less.count(n < 0); n != packs-unpacks {
				t.Errorf("there are %d more of %s, of which %d were packed and %d unpacked in %v", n, kind, packs, unpacks, a)
			}
		}
	}
	c.enough(t, 1000, 1000)
	more.enough(t, 50, 300)
	less.enough(t, 50, 300)
}

func TestPromise50(t *testing.T) {
	c, others := tally{}, tally{}
	for _, a := range slices.Concat(runsPromised(501), someRuns(504, 100, sortGood)) {
		modules := a.modules()
		does := a.steps() > 0 && impl.ShelfGood(a.shelf)
		c.count(does)
		others.count(len(modules) > 1)
		if does && (len(modules) == 0 || modules[len(modules)-1] != a.m) {
			t.Errorf("instructions are done by %v in %v", modules, a)
		}
	}
	c.enough(t, 500, 100)
	others.enough(t, 100, 300)
}

func TestPromise51(t *testing.T) {
	c := tally{}
	for _, a := range slices.Concat(runsPromised(511), []asked{askedOf("func 2 : : :; call 0 0", "", "")}) {
		deep := a.deep()
		c.count(deep > 1)
		if deep > impl.DepthTop || deep < 0 || deep > 1 && !slices.Contains(a.words(), "call") || a.ok() != (deep > 0) {
			t.Errorf("CallDeep of %v told %d", a, deep)
		}
	}
	c.enough(t, 150, 300)
}

// someRow is a row of runs of a shelf, by chance, without vaults.
func someRow(r *rand.Rand, shelf []impl.Module) []asked {
	kinds := stand{shelf: shelf}.kinds()
	row := []asked{}
	for range 8 {
		m := r.Intn(len(shelf))
		a := asked{shelf: shelf, owner: r.Intn(4), m: m, f: r.Intn(2), fuel: pick(r, []int{300, 300, r.Intn(40)})}
		for _, t := range shelf[m].Funcs[a.f].Args {
			a.args = append(a.args, someValue(r, kinds, t))
		}
		row = append(row, a)
	}
	return row
}

func TestPromise52(t *testing.T) {
	r := rand.New(rand.NewSource(521))
	changes, done := tally{}, tally{}
	for range 400 {
		shelf := someRunShelf(r, sortGood)
		if !impl.ShelfGood(shelf) {
			continue
		}
		kinds := stand{shelf: shelf}.kinds()
		vaults := slices.DeleteFunc(allOf(r, kinds), func(impl.Kept) bool { return r.Intn(2) == 0 })
		first, came, given, made := vaults, []impl.Value{}, []impl.Value{}, map[string]int{}
		for _, a := range someRow(r, shelf) {
			a.vaults = vaults
			out := a.run()
			if out.Code == impl.EndWrong || out.Code == impl.EndNone || !a.apart() {
				t.Errorf("%v ended with %d, and its references are apart: %v", a, out.Code, a.apart())
			}
			vaults = out.Vaults
			if done.count(out.Code == impl.EndDone); out.Code != impl.EndDone {
				continue
			}
			came, given = append(came, out.Rets...), append(given, a.args...)
			for _, kind := range kindTexts() {
				packs, unpacks := a.packs(kind)
				made[kind] += packs - unpacks
			}
		}
		for _, kind := range kindTexts() {
			more := heldWanted(vaults, came, kind) - heldWanted(first, given, kind)
			if impl.KindSafe(shelf, kind) && more != made[kind] {
				t.Errorf("there are %d more of %s behind a row, and %d more were packed than unpacked in %v", more, kind, made[kind], shelf)
			}
			changes.count(impl.KindSafe(shelf, kind) && more != 0)
		}
	}
	done.enough(t, 300, 300)
	changes.enough(t, 100, 300)
}

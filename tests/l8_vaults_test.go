package tests

import (
	"math"
	"math/rand"
	"reflect"
	"slices"
	"strconv"
	"strings"
	"testing"

	"loop.example/heirlooms/impl"
)

// kindsKept are kinds of which S01 and S20 cannot be kept, and others have them and each other as parts at many depths.
func kindsKept() [][]impl.Record {
	return [][]impl.Record{
		{rec(12, "n"), rec(4, "S00"), rec(12, "S01", "S00")},
		{rec(15, "n"), rec(8, "S02", "S00", "b"), rec(12, "S02", "S02", "S10")},
		{rec(0), rec(12, "S12", "S00"), rec(8, "S21", "S12", "S01")},
	}
}

// kindsFull are as many kinds as there may be, all of which can be kept.
func kindsFull() [][]impl.Record {
	kinds := make([][]impl.Record, 3)
	for m := range kinds {
		kinds[m] = []impl.Record{rec(12, "n"), rec(12, "b", "o"), rec(8)}
	}
	return kinds
}

// kindTexts are the names of all kinds that there may be.
func kindTexts() []string {
	return []string{"S00", "S01", "S02", "S10", "S11", "S12", "S20", "S21", "S22"}
}

// kindsNone are texts that are no kinds.
func kindsNone() []string {
	return []string{"", "n", "b", "o", "x", "S", "S0", "S03", "S30", "S33", "S000", "S00 ", " S00", "s00", "&S00", "!S00", "&n", "&", "!S22", "S0a", "\xff", "S00(7)", "@0", "S٠٠"}
}

// ownersSome are the owners, and numbers that are none.
func ownersSome() []int {
	return []int{0, 1, 2, 3, 4, 5, 10, -1, -2, -4, math.MaxInt, math.MinInt}
}

// read returns the value of kinds with a text.
func read(kinds [][]impl.Record, text string) impl.Value {
	v, ok := impl.ValueRead(kinds, text)
	if !ok {
		panic("no value has the text " + text)
	}
	return v
}

// vaultsOf returns vaults as their texts tell them, each an owner and a value; they may be none.
func vaultsOf(kinds [][]impl.Record, texts ...string) []impl.Kept {
	list := []impl.Kept{}
	for _, text := range texts {
		o, of, _ := strings.Cut(strings.TrimPrefix(text, "@"), " ")
		n, _ := strconv.Atoi(o)
		list = append(list, impl.Kept{Owner: n, Of: read(kinds, of)})
	}
	return list
}

// allOf returns vaults in which each owner has a record of each kind that can be kept.
func allOf(r *rand.Rand, kinds [][]impl.Record) []impl.Kept {
	list := []impl.Kept{}
	for o := range 4 {
		for _, kind := range kindTexts() {
			if able := ableWanted(kinds, kind); able != -1 && able&8 != 0 {
				list = append(list, impl.Kept{Owner: o, Of: someValue(r, kinds, kind)})
			}
		}
	}
	return list
}

// sameKept reports whether two vaults are the same; a nil slice is as an empty one.
func sameKept(a []impl.Kept, b []impl.Kept) bool {
	return slices.EqualFunc(a, b, func(x impl.Kept, y impl.Kept) bool { return x.Owner == y.Owner && sameValue(x.Of, y.Of) })
}

// cloneValue returns a copy of a value, whose lists have room behind them that is empty.
func cloneValue(v impl.Value) impl.Value {
	c := impl.Value{Type: v.Type, N: v.N, Parts: make([]impl.Value, 0, len(v.Parts)+2), Path: roomy(v.Path)}
	for _, part := range v.Parts {
		c.Parts = append(c.Parts, cloneValue(part))
	}
	return c
}

// cloneKept returns a copy of vaults, whose lists have room behind them that is empty.
func cloneKept(list []impl.Kept) []impl.Kept {
	c := make([]impl.Kept, 0, len(list)+2)
	for _, kept := range list {
		c = append(c, impl.Kept{Owner: kept.Owner, Of: cloneValue(kept.Of)})
	}
	return c
}

// okKeptWanted tells by the document's words whether vaults of kinds are ones.
func okKeptWanted(kinds [][]impl.Record, list []impl.Kept) bool {
	if bad, _ := badWanted(kinds); bad != -1 || len(list) > 36 {
		return false
	}
	for i, kept := range list {
		if kept.Owner < 0 || kept.Owner >= 4 || !okWanted(kinds, kept.Of) {
			return false
		}
		if able := ableWanted(kinds, kept.Of.Type); able < 8 {
			return false
		}
		for _, ahead := range list[:i] {
			if ahead.Owner > kept.Owner || ahead.Owner == kept.Owner && ahead.Of.Type >= kept.Of.Type {
				return false
			}
		}
	}
	return true
}

// getWanted tells the record of a kind of an owner in good vaults, and whether there is one.
func getWanted(list []impl.Kept, o int, kind string) (impl.Value, bool) {
	for _, kept := range list {
		if kept.Owner == o && kept.Of.Type == kind {
			return kept.Of, true
		}
	}
	return impl.Value{}, false
}

// takeWanted tells good vaults without the record of a kind of an owner.
func takeWanted(list []impl.Kept, o int, kind string) []impl.Kept {
	return slices.DeleteFunc(slices.Clone(list), func(kept impl.Kept) bool { return kept.Owner == o && kept.Of.Type == kind })
}

// putWanted tells good vaults with one more record: their texts are sorted, since an owner has one digit, and a kind three bytes.
func putWanted(list []impl.Kept, o int, v impl.Value) []impl.Kept {
	list = append(slices.Clone(list), impl.Kept{Owner: o, Of: v})
	slices.SortFunc(list, func(a impl.Kept, b impl.Kept) int {
		return strings.Compare(strconv.Itoa(a.Owner)+a.Of.Type, strconv.Itoa(b.Owner)+b.Of.Type)
	})
	return list
}

// countWanted tells how many records of a kind there are in good vaults.
func countWanted(list []impl.Kept, kind string) int {
	n := 0
	for _, kept := range list {
		eachOf(kept.Of, func(v impl.Value) {
			if v.Type == kind {
				n++
			}
		})
	}
	return n
}

// textKeptWanted tells the text of good vaults.
func textKeptWanted(list []impl.Kept) string {
	text := ""
	for _, kept := range list {
		text += "@" + strconv.Itoa(kept.Owner) + " " + textWanted(kept.Of) + "\n"
	}
	return text
}

// checkPut holds what VaultsPut and VaultsSet tell of an owner and a value against the document's words, and returns whether there were told vaults.
func checkPut(t *testing.T, kinds [][]impl.Record, list []impl.Kept, o int, v impl.Value) (bool, bool) {
	t.Helper()
	good := okKeptWanted(kinds, list) && okKeptWanted(kinds, []impl.Kept{{Owner: o, Of: v}})
	_, has := getWanted(list, o, v.Type)
	var put, set []impl.Kept
	if good && !has {
		put = putWanted(list, o, v)
	}
	if good && has {
		set = putWanted(takeWanted(list, o, v.Type), o, v)
	}
	if got, ok := impl.VaultsPut(kinds, list, o, v); ok != (good && !has) || !sameKept(got, put) {
		t.Fatalf("in %v, VaultsPut of %v for %d to %v told %v %v", kinds, v, o, list, got, ok)
	}
	if got, ok := impl.VaultsSet(kinds, list, o, v); ok != (good && has) || !sameKept(got, set) {
		t.Fatalf("in %v, VaultsSet of %v for %d to %v told %v %v", kinds, v, o, list, got, ok)
	}
	return good && !has, good && has
}

// checkTake holds what VaultsGet and VaultsTake tell of an owner and a text against the document's words, and returns whether there was a record.
func checkTake(t *testing.T, kinds [][]impl.Record, list []impl.Kept, o int, kind string) bool {
	t.Helper()
	want, has, left := impl.Value{}, false, []impl.Kept{}
	if okKeptWanted(kinds, list) {
		want, has = getWanted(list, o, kind)
	}
	if has {
		left = takeWanted(list, o, kind)
	}
	if got, ok := impl.VaultsGet(kinds, list, o, kind); ok != has || !sameValue(got, want) {
		t.Fatalf("in %v, VaultsGet of %q of %d in %v told %v %v", kinds, kind, o, list, got, ok)
	}
	if rest, got, ok := impl.VaultsTake(kinds, list, o, kind); ok != has || !sameValue(got, want) || !sameKept(rest, left) {
		t.Fatalf("in %v, VaultsTake of %q of %d in %v told %v %v %v", kinds, kind, o, list, rest, got, ok)
	}
	return has
}

// checkKept holds what is told of vaults as a whole against the document's words, and returns whether they are ones.
func checkKept(t *testing.T, kinds [][]impl.Record, list []impl.Kept) bool {
	t.Helper()
	good, text := okKeptWanted(kinds, list), ""
	if good {
		text = textKeptWanted(list)
	}
	if got := impl.VaultsOk(kinds, list); got != good {
		t.Fatalf("in %v, VaultsOk of %v told %v", kinds, list, got)
	}
	if got := impl.VaultsText(kinds, list); got != text {
		t.Fatalf("in %v, VaultsText of %v told %q, not %q", kinds, list, got, text)
	}
	for _, kind := range append(kindTexts(), "", "n", "x", "&S00", "S30") {
		want := -1
		if good && strings.HasPrefix(kind, "S") && ableWanted(kinds, kind) != -1 {
			want = countWanted(list, kind)
		}
		if got := impl.VaultsCount(kinds, list, kind); got != want {
			t.Fatalf("in %v, VaultsCount of %q in %v told %d, not %d", kinds, kind, list, got, want)
		}
	}
	return good
}

// checkNoVaults holds that vaults are none, whatever is asked of them.
func checkNoVaults(t *testing.T, name string, kinds [][]impl.Record, list []impl.Kept) {
	t.Helper()
	if checkKept(t, kinds, list) {
		t.Errorf("%s: the vaults %v are ones", name, list)
	}
	kept := append(slices.Clone(list), impl.Kept{Of: val("S00", num(7))}, impl.Kept{Owner: 3, Of: val("S22")})
	for _, one := range kept {
		for _, o := range []int{one.Owner, 0, 3} {
			took := checkTake(t, kinds, list, o, one.Of.Type)
			put, set := checkPut(t, kinds, list, o, one.Of)
			if took || put || set {
				t.Errorf("%s: something is told of the vaults %v", name, list)
			}
		}
	}
}

// checkAll holds all functions of vaults against the document's words, for owners and kinds of all sorts, and some values.
func checkAll(t *testing.T, kinds [][]impl.Record, list []impl.Kept, values []impl.Value) {
	t.Helper()
	checkKept(t, kinds, list)
	for _, o := range ownersSome() {
		for _, kind := range append(kindTexts(), kindsNone()...) {
			checkTake(t, kinds, list, o, kind)
		}
		for _, v := range values {
			checkPut(t, kinds, list, o, v)
		}
	}
}

func TestVaultsConstant(t *testing.T) {
	if impl.VaultsMost != 36 {
		t.Errorf("VaultsMost is %d", impl.VaultsMost)
	}
}

// TestVaultsWritten goes through vaults whose texts are written out.
func TestVaultsWritten(t *testing.T) {
	kinds := kindsKept()
	texts := []string{
		"@0 S00(0)", "@0 S02(S01(S00(5)) S00(6))", "@1 S10(1000000)", "@2 S00(9)", "@2 S11(S02(S01(S00(1)) S00(2)) S00(3) -)",
		"@3 S12(S02(S01(S00(1)) S00(2)) S02(S01(S00(3)) S00(4)) S10(5))",
	}
	list := vaultsOf(kinds, texts...)
	if got := impl.VaultsText(kinds, list); got != strings.Join(texts, "\n")+"\n" {
		t.Errorf("VaultsText told %q", got)
	}
	checkAll(t, kinds, list, nil)
	for i, text := range texts {
		o, v := list[i].Owner, list[i].Of
		if got, ok := impl.VaultsGet(kinds, list, o, v.Type); !ok || impl.ValueText(kinds, got) != text[3:] {
			t.Errorf("VaultsGet of %s of %d told %v %v", v.Type, o, got, ok)
		}
		rest, took, ok := impl.VaultsTake(kinds, list, o, v.Type)
		want := strings.Join(slices.Delete(slices.Clone(texts), i, i+1), "\n") + "\n"
		if got := impl.VaultsText(kinds, rest); !ok || got != want || impl.ValueText(kinds, took) != text[3:] {
			t.Errorf("VaultsTake of %s of %d told %q %v %v", v.Type, o, got, took, ok)
		}
		if again, ok := impl.VaultsPut(kinds, rest, o, v); !ok || impl.VaultsText(kinds, again) != strings.Join(texts, "\n")+"\n" {
			t.Errorf("VaultsPut of %s for %d told %v %v", v.Type, o, again, ok)
		}
	}
}

// TestVaultsSetWritten sets a record, and holds that the others, also those of the same kind of other owners, stay.
func TestVaultsSetWritten(t *testing.T) {
	kinds := kindsKept()
	list := vaultsOf(kinds, "@0 S00(1)", "@0 S10(2)", "@1 S00(3)", "@1 S10(4)", "@3 S00(5)")
	for _, c := range []struct {
		o        int
		of, want string
	}{
		{0, "S00(70)", "@0 S00(70)\n@0 S10(2)\n@1 S00(3)\n@1 S10(4)\n@3 S00(5)\n"},
		{0, "S10(0)", "@0 S00(1)\n@0 S10(0)\n@1 S00(3)\n@1 S10(4)\n@3 S00(5)\n"},
		{1, "S00(1000000)", "@0 S00(1)\n@0 S10(2)\n@1 S00(1000000)\n@1 S10(4)\n@3 S00(5)\n"},
		{1, "S10(4)", "@0 S00(1)\n@0 S10(2)\n@1 S00(3)\n@1 S10(4)\n@3 S00(5)\n"},
		{3, "S00(6)", "@0 S00(1)\n@0 S10(2)\n@1 S00(3)\n@1 S10(4)\n@3 S00(6)\n"},
		{3, "S10(6)", ""}, {2, "S00(6)", ""}, {4, "S00(6)", ""}, {-1, "S00(6)", ""}, {0, "S01(S00(6))", ""}, {0, "6", ""}, {1, "+", ""}, {3, "@3", ""},
	} {
		got, ok := impl.VaultsSet(kinds, list, c.o, read(kinds, c.of))
		if impl.VaultsText(kinds, got) != c.want || ok != (c.want != "") {
			t.Errorf("VaultsSet of %s for %d told %v %v", c.of, c.o, got, ok)
		}
	}
	for _, v := range append(valuesNone(), val("S00", num(-1)), val("S00"), val("S10", num(1000001)), val("S10", truth(1)), impl.Value{Type: "S00", Parts: []impl.Value{num(1)}, Path: []int{0}}, impl.Value{Type: "S00", N: 1, Parts: []impl.Value{num(1)}}) {
		for o := range 4 {
			if _, set := checkPut(t, kinds, list, o, v); set && !okWanted(kinds, v) {
				t.Errorf("VaultsSet of %v for %d is told as %v", v, o, set)
			}
		}
	}
}

// TestVaultsLast goes through the last kind of the last owner, and that of the others.
func TestVaultsLast(t *testing.T) {
	kinds := kindsKept()
	last := read(kinds, "S22(S21(S12(S02(S01(S00(1)) S00(2)) S02(S01(S00(3)) S00(4)) S10(5)) S00(6)) S12(S02(S01(S00(7)) S00(8)) S02(S01(S00(9)) S00(10)) S10(11)) S01(S00(12)))")
	all := allOf(rand.New(rand.NewSource(90)), kinds)
	if len(all) != 28 || all[27].Owner != 3 || all[27].Of.Type != "S22" {
		t.Fatalf("the last one of %v is another one", all)
	}
	for o := range 4 {
		but := takeWanted(all, o, "S22")
		for _, list := range [][]impl.Kept{nil, but, all[:27], all} {
			checkAll(t, kinds, list, []impl.Value{last})
		}
		if put, _ := checkPut(t, kinds, but, o, last); !put {
			t.Errorf("the last kind is not put for %d", o)
		}
		if _, set := checkPut(t, kinds, all, o, last); !set {
			t.Errorf("the last kind is not set for %d", o)
		}
		if !checkTake(t, kinds, all, o, "S22") {
			t.Errorf("the last kind is not taken from %d", o)
		}
	}
	list, ok := impl.VaultsPut(kinds, nil, 3, last)
	if text := "@3 " + impl.ValueText(kinds, last) + "\n"; !ok || impl.VaultsText(kinds, list) != text {
		t.Errorf("VaultsPut of the last kind for the last owner told %v %v", list, ok)
	}
	for kind, want := range map[string]int{"S00": 10, "S01": 5, "S02": 4, "S10": 2, "S11": 0, "S12": 2, "S20": 0, "S21": 1, "S22": 1} {
		if got := impl.VaultsCount(kinds, list, kind); got != want {
			t.Errorf("VaultsCount of %s in the last kind told %d, not %d", kind, got, want)
		}
	}
	checkNoVaults(t, "twice", kinds, append(list, list...))
	checkNoVaults(t, "the last owner ahead", kinds, append(slices.Clone(list), impl.Kept{Owner: 2, Of: last}))
	checkNoVaults(t, "the last kind ahead", kinds, append(slices.Clone(list), impl.Kept{Owner: 3, Of: read(kinds, "S10(1)")}))
	checkNoVaults(t, "behind the last owner", kinds, []impl.Kept{{Owner: 4, Of: last}})
}

// TestVaultsLastOfFew goes through kinds of which the last one is an earlier one.
func TestVaultsLastOfFew(t *testing.T) {
	for m := range 3 {
		for n := range 3 {
			kinds := kindsFull()[:m+1]
			kinds[m] = kinds[m][:n+1]
			r := rand.New(rand.NewSource(91))
			all := allOf(r, kinds)
			last := all[len(all)-1]
			if want := 4 * (3*m + n + 1); len(all) != want || last.Owner != 3 || last.Of.Type != "S"+strconv.Itoa(m)+strconv.Itoa(n) {
				t.Fatalf("the last one of %v is another one", all)
			}
			values := []impl.Value{}
			for _, kind := range kindTexts() {
				values = append(values, val(kind), someValue(r, kindsFull(), kind))
			}
			checkAll(t, kinds, all, values)
			checkAll(t, kinds, all[:len(all)-1], values)
		}
	}
}

// TestVaultsOrder puts records in all orders, and holds that they come to stand in the same one, which is not that of the numbers of records, nor of those in them.
func TestVaultsOrder(t *testing.T) {
	kinds := [][]impl.Record{{rec(12, "n"), rec(12, "n"), rec(12, "n")}, {rec(12, "n"), rec(12, "n")}, {rec(12, "n")}}
	texts := []string{"@0 S02(9)", "@0 S10(10)", "@1 S01(100)", "@1 S02(20)", "@1 S10(3)", "@1 S20(0)", "@2 S00(1)", "@2 S01(2)"}
	want := strings.Join(texts, "\n") + "\n"
	r := rand.New(rand.NewSource(92))
	for range 300 {
		list, ok := []impl.Kept{}, true
		for _, kept := range shuffled(r, vaultsOf(kinds, texts...)) {
			if list, ok = impl.VaultsPut(kinds, list, kept.Owner, kept.Of); !ok {
				t.Fatalf("VaultsPut of %v told nothing", kept)
			}
		}
		if got := impl.VaultsText(kinds, list); got != want {
			t.Fatalf("the order is %q", got)
		}
	}
	for name, texts := range map[string][]string{
		"by records":           {"@0 S10(10)", "@0 S02(9)"},
		"by numbers in them":   {"@0 S10(2)", "@0 S00(10)"},
		"by texts of numbers":  {"@1 S01(10)", "@1 S00(9)"},
		"by kinds ahead":       {"@1 S00(0)", "@0 S20(0)"},
		"by kinds of all":      {"@0 S00(0)", "@1 S00(0)", "@0 S01(0)", "@1 S01(0)"},
		"owners the other way": {"@3 S00(0)", "@2 S00(0)", "@1 S00(0)", "@0 S00(0)"},
		"kinds the other way":  {"@0 S20(0)", "@0 S10(0)", "@0 S00(0)"},
		"the last two":         {"@0 S00(0)", "@0 S02(0)", "@0 S01(0)"},
		"the first two":        {"@0 S01(0)", "@0 S00(0)", "@0 S02(0)"},
		"back to the first":    {"@0 S00(0)", "@1 S00(0)", "@0 S02(0)"},
		"the same twice":       {"@2 S00(0)", "@2 S00(0)"},
		"the same with others": {"@2 S00(0)", "@2 S00(1)"},
		"the same further on":  {"@0 S00(0)", "@0 S01(0)", "@0 S00(0)"},
	} {
		checkNoVaults(t, name, kinds, vaultsOf(kinds, texts...))
	}
	checkAll(t, kinds, vaultsOf(kinds, "@0 S20(0)", "@1 S00(0)"), []impl.Value{val("S01", num(1)), val("S20", num(1))})
}

// shuffled returns a list in another order.
func shuffled[T any](r *rand.Rand, list []T) []T {
	list = slices.Clone(list)
	r.Shuffle(len(list), func(a int, b int) { list[a], list[b] = list[b], list[a] })
	return list
}

// TestVaultsMost takes as many records as there may be, and one more.
func TestVaultsMost(t *testing.T) {
	kinds := kindsFull()
	r := rand.New(rand.NewSource(93))
	all := allOf(r, kinds)
	if len(all) != impl.VaultsMost || !checkKept(t, kinds, all) {
		t.Fatalf("%d records are none", len(all))
	}
	values := []impl.Value{}
	for _, kind := range kindTexts() {
		values = append(values, someValue(r, kinds, kind))
	}
	checkAll(t, kinds, all, values)
	list, ok := []impl.Kept(nil), true
	for _, kept := range shuffled(r, all) {
		if list, ok = impl.VaultsPut(kinds, list, kept.Owner, kept.Of); !ok {
			t.Fatalf("behind %v, VaultsPut of %v told nothing", list, kept)
		}
	}
	if !sameKept(list, all) {
		t.Errorf("%v were put, and %v are there", all, list)
	}
	for i, kept := range all {
		but := slices.Delete(slices.Clone(all), i, i+1)
		if put, _ := checkPut(t, kinds, but, kept.Owner, kept.Of); !put {
			t.Errorf("the last one that there may be, %v, is not put", kept)
		}
		if put, set := checkPut(t, kinds, all, kept.Owner, values[i%9]); put || !set {
			t.Errorf("one more, %v, is put", kept)
		}
		checkNoVaults(t, "one more", kinds, slices.Insert(slices.Clone(all), i, kept))
	}
	for _, more := range []impl.Kept{{Owner: 4, Of: val("S00", num(1))}, {Owner: 3, Of: val("S30")}, {Owner: 3, Of: num(1)}, {}} {
		checkNoVaults(t, "one more behind", kinds, append(slices.Clone(all), more))
	}
	checkNoVaults(t, "many more", kinds, slices.Repeat(all, 100))
}

// TestVaultsEnds puts, takes and sets the first and the last record, and one in between.
func TestVaultsEnds(t *testing.T) {
	kinds := kindsKept()
	list := vaultsOf(kinds, "@0 S02(S01(S00(5)) S00(6))", "@1 S00(7)", "@1 S10(8)", "@2 S12(S02(S01(S00(1)) S00(2)) S02(S01(S00(3)) S00(4)) S10(5))")
	for _, c := range []struct {
		o     int
		of    string
		at    int
		isNew bool
	}{
		{0, "S00(1)", 0, true}, {0, "S02(S01(S00(1)) S00(1))", 0, false}, {0, "S10(1)", 1, true}, {1, "S00(1)", 1, false},
		{1, "S02(S01(S00(1)) S00(1))", 2, true}, {1, "S10(1)", 2, false}, {2, "S00(1)", 3, true}, {3, "S00(1)", 4, true},
		{2, "S12(S02(S01(S00(9)) S00(9)) S02(S01(S00(9)) S00(9)) S10(9))", 3, false},
	} {
		v := read(kinds, c.of)
		if !c.isNew {
			got, ok := impl.VaultsSet(kinds, list, c.o, v)
			if !ok || len(got) != 4 || !sameValue(got[c.at].Of, v) || !sameKept(slices.Delete(slices.Clone(got), c.at, c.at+1), slices.Delete(slices.Clone(list), c.at, c.at+1)) {
				t.Errorf("VaultsSet of %s for %d told %v %v", c.of, c.o, got, ok)
			}
			rest, took, ok := impl.VaultsTake(kinds, list, c.o, v.Type)
			if !ok || !sameValue(took, list[c.at].Of) || !sameKept(rest, slices.Delete(slices.Clone(list), c.at, c.at+1)) {
				t.Errorf("VaultsTake of %s of %d told %v %v %v", v.Type, c.o, rest, took, ok)
			}
			continue
		}
		got, ok := impl.VaultsPut(kinds, list, c.o, v)
		if !ok || len(got) != 5 || got[c.at].Owner != c.o || !sameValue(got[c.at].Of, v) || !sameKept(slices.Delete(slices.Clone(got), c.at, c.at+1), list) {
			t.Errorf("VaultsPut of %s for %d told %v %v", c.of, c.o, got, ok)
		}
	}
}

// TestVaultsEmpty takes vaults with nothing, and those of kinds with nothing.
func TestVaultsEmpty(t *testing.T) {
	for _, kinds := range [][][]impl.Record{nil, {}, {{}}, {{}, nil, {}}, kindsKept(), kindsFull(), kindsOfValues()} {
		for _, list := range [][]impl.Kept{nil, {}} {
			if !impl.VaultsOk(kinds, list) || impl.VaultsText(kinds, list) != "" {
				t.Errorf("in %v, empty vaults are none", kinds)
			}
			values := []impl.Value{{}, num(1), val("S00"), val("S00", num(3)), val("S22")}
			checkAll(t, kinds, list, values)
		}
	}
	kinds := kindsKept()
	one, ok := impl.VaultsPut(kinds, nil, 0, val("S00", num(3)))
	if !ok || impl.VaultsText(kinds, one) != "@0 S00(3)\n" {
		t.Errorf("VaultsPut to nothing told %v %v", one, ok)
	}
	if none, v, ok := impl.VaultsTake(kinds, one, 0, "S00"); !ok || len(none) != 0 || !sameValue(v, val("S00", num(3))) {
		t.Errorf("VaultsTake of the only record told %v %v %v", none, v, ok)
	}
	if got := impl.VaultsCount(kinds, nil, "S20"); got != 0 {
		t.Errorf("VaultsCount of nothing told %d", got)
	}
}

// TestVaultsOwners goes through all owners, and numbers that are none.
func TestVaultsOwners(t *testing.T) {
	kinds := kindsKept()
	v := val("S00", num(3))
	for _, o := range append(ownersSome(), 1<<32, 1<<32+1, -1<<32, 256) {
		isOwner := o == 0 || o == 1 || o == 2 || o == 3
		list := []impl.Kept{{Owner: o, Of: v}}
		if checkKept(t, kinds, list) != isOwner || checkTake(t, kinds, list, o, "S00") != isOwner {
			t.Errorf("the vaults of the owner %d are told as %v", o, !isOwner)
		}
		if put, _ := checkPut(t, kinds, nil, o, v); put != isOwner {
			t.Errorf("that the owner %d keeps something is told as %v", o, put)
		}
		if _, set := checkPut(t, kinds, list, o, v); set != isOwner {
			t.Errorf("that the owner %d has something else is told as %v", o, set)
		}
		if got := impl.VaultsText(kinds, list); isOwner && got != "@"+strconv.Itoa(o)+" S00(3)\n" {
			t.Errorf("VaultsText told %q", got)
		}
	}
	list := vaultsOf(kinds, "@0 S00(1)", "@3 S00(2)")
	for _, o := range ownersSome() {
		if has := checkTake(t, kinds, list, o, "S00"); has != (o == 0 || o == 3) {
			t.Errorf("that the owner %d has something is told as %v", o, has)
		}
	}
}

// TestVaultsAbles goes through all abilities, and holds that just what can be kept is kept.
func TestVaultsAbles(t *testing.T) {
	for able := range 16 {
		kinds := [][]impl.Record{{rec(12, "n"), rec(able, "n")}}
		v, ahead := val("S01", num(3)), vaultsOf(kinds, "@1 S00(1)")
		can := able >= 8
		put, _ := checkPut(t, kinds, ahead, 1, v)
		good := checkKept(t, kinds, append(ahead, impl.Kept{Owner: 1, Of: v}))
		has := checkTake(t, kinds, append(ahead, impl.Kept{Owner: 1, Of: v}), 1, "S01")
		_, set := checkPut(t, kinds, append(ahead, impl.Kept{Owner: 1, Of: v}), 1, v)
		if put != can || good != can || has != can || set != can {
			t.Errorf("that a record with %d is kept is told as %v %v %v %v", able, put, good, has, set)
		}
	}
}

// TestVaultsNoRecords takes values that are no records, or none at all.
func TestVaultsNoRecords(t *testing.T) {
	kinds := kindsOfValues() // of these S01, S11 and S12 can be kept
	ahead := vaultsOf(kinds, "@1 S01(S00(7 + @3))")
	for _, w := range valuesWritten() {
		can := w.v.Type == "S01" || w.v.Type == "S11" || w.v.Type == "S12"
		if put, _ := checkPut(t, kinds, ahead, 2, w.v); put != can {
			t.Errorf("that %s is kept is told as %v", w.text, put)
		}
		if good := checkKept(t, kinds, append(slices.Clone(ahead), impl.Kept{Owner: 2, Of: w.v})); good != can {
			t.Errorf("vaults with %s are told as %v", w.text, good)
		}
	}
	for _, v := range valuesNone() {
		if put, set := checkPut(t, kinds, ahead, 2, v); put || set {
			t.Errorf("%v is kept", v)
		}
		checkNoVaults(t, "a value that is none", kinds, append(slices.Clone(ahead), impl.Kept{Owner: 2, Of: v}))
		checkNoVaults(t, "a value that is none ahead", kinds, append([]impl.Kept{{Owner: 0, Of: v}}, ahead...))
	}
}

// TestVaultsTwice holds that what an owner has already is not put.
func TestVaultsTwice(t *testing.T) {
	kinds := kindsKept()
	list := vaultsOf(kinds, "@0 S00(1)", "@1 S00(1)", "@1 S10(2)", "@3 S10(3)")
	for o, has := range map[int]string{0: "S00", 1: "S00 S10", 2: "", 3: "S10"} {
		for _, v := range []impl.Value{val("S00", num(1)), val("S00", num(9)), val("S10", num(2)), val("S10", num(0))} {
			put, set := checkPut(t, kinds, list, o, v)
			if want := strings.Contains(has, v.Type); put == want || set != want {
				t.Errorf("of %v for %d is told %v %v", v, o, put, set)
			}
		}
	}
	// A record within a record is not one that the owner has.
	if put, _ := checkPut(t, kinds, vaultsOf(kinds, "@1 S02(S01(S00(1)) S00(2))"), 1, val("S00", num(1))); !put {
		t.Error("S00 is not put beside S02 with one in it")
	}
}

// TestVaultsKindsNone holds that nothing is told of kinds that are none, nor of texts that are no kinds.
func TestVaultsKindsNone(t *testing.T) {
	for _, c := range kindsFaulty() {
		for _, list := range [][]impl.Kept{nil, {{Of: val("S00", num(1))}}, {{Of: val("S00")}}, {{Owner: 2, Of: val("S01")}}} {
			checkNoVaults(t, c.name, c.kinds, list)
		}
	}
	kinds := kindsKept()
	all := allOf(rand.New(rand.NewSource(94)), kinds)
	for _, kind := range kindsNone() {
		if got := impl.VaultsCount(kinds, all, kind); got != -1 {
			t.Errorf("VaultsCount of %q told %d", kind, got)
		}
		for o := range 4 {
			if checkTake(t, kinds, all, o, kind) {
				t.Errorf("%d has a record of %q", o, kind)
			}
			checkPut(t, kinds, all, o, val(kind))
			checkPut(t, kinds, all, o, val(kind, num(1)))
		}
	}
	few := kinds[:1] // a kind that other kinds have
	checkNoVaults(t, "a kind of other kinds", few, vaultsOf(kinds, "@0 S00(1)", "@0 S10(1)"))
	if got := impl.VaultsCount(few, vaultsOf(kinds, "@0 S00(1)"), "S10"); got != -1 {
		t.Errorf("VaultsCount of a kind of other kinds told %d", got)
	}
	for _, kind := range []string{"S01", "S20"} { // kinds that cannot be kept are counted all the same
		if got, want := impl.VaultsCount(kinds, all, kind), countWanted(all, kind); got != want || got < 0 {
			t.Errorf("VaultsCount of %s told %d, not %d", kind, got, want)
		}
	}
}

// TestVaultsCountDeep counts records within records at every depth.
func TestVaultsCountDeep(t *testing.T) {
	kinds := kindsKept()
	list := vaultsOf(kinds,
		"@0 S00(1)",
		"@1 S02(S01(S00(5)) S00(6))",
		"@2 S11(S02(S01(S00(1)) S00(2)) S00(3) -)",
		"@3 S00(7)",
		"@3 S21(S12(S02(S01(S00(1)) S00(2)) S02(S01(S00(3)) S00(4)) S10(5)) S00(6))",
	)
	for i, want := range []map[string]int{
		{"S00": 0, "S01": 0, "S02": 0, "S10": 0, "S11": 0, "S12": 0, "S20": 0, "S21": 0, "S22": 0},
		{"S00": 1, "S01": 0, "S02": 0, "S10": 0, "S11": 0, "S12": 0, "S20": 0, "S21": 0, "S22": 0},
		{"S00": 3, "S01": 1, "S02": 1, "S10": 0, "S11": 0, "S12": 0, "S20": 0, "S21": 0, "S22": 0},
		{"S00": 6, "S01": 2, "S02": 2, "S10": 0, "S11": 1, "S12": 0, "S20": 0, "S21": 0, "S22": 0},
		{"S00": 7, "S01": 2, "S02": 2, "S10": 0, "S11": 1, "S12": 0, "S20": 0, "S21": 0, "S22": 0},
		{"S00": 12, "S01": 4, "S02": 4, "S10": 1, "S11": 1, "S12": 1, "S20": 0, "S21": 1, "S22": 0},
	} {
		for kind, n := range want {
			if got := impl.VaultsCount(kinds, list[:i], kind); got != n {
				t.Errorf("VaultsCount of %s in the first %d told %d, not %d", kind, i, got, n)
			}
		}
	}
}

// TestVaultsDeep takes records as deep and as large as kinds allow.
func TestVaultsDeep(t *testing.T) {
	kinds := kindsDeep()
	for _, records := range kinds {
		for i := range records {
			records[i].Able = impl.AbleTop
		}
	}
	r := rand.New(rand.NewSource(95))
	all := allOf(r, kinds)
	if len(all) != 36 || !checkKept(t, kinds, all) {
		t.Fatalf("%d large records are none", len(all))
	}
	if got := impl.VaultsCount(kinds, all, "S00"); got != 4*9841 {
		t.Errorf("VaultsCount told %d", got)
	}
	checkTake(t, kinds, all, 3, "S22")
	checkPut(t, kinds, all, 3, someValue(r, kinds, "S22"))
	checkPut(t, kinds, all[:35], 3, someValue(r, kinds, "S22"))
}

// TestVaultsRound takes values that have themselves as parts.
func TestVaultsRound(t *testing.T) {
	kinds := [][]impl.Record{{rec(12, "n"), rec(12, "S00", "S00")}}
	for _, kind := range []string{"S00", "S01", "n", "x"} {
		parts := make([]impl.Value, 2)
		parts[0], parts[1] = val(kind, parts...), val(kind, parts...)
		for _, v := range []impl.Value{parts[0], val("S01", parts...), {Type: kind, Parts: parts[:1]}} {
			for _, list := range [][]impl.Kept{nil, {{Owner: 1, Of: v}}, vaultsOf(kinds, "@1 S00(1)", "@1 S01(S00(1) S00(2))")} {
				if list, ok := impl.VaultsPut(kinds, list, 1, v); ok || len(list) != 0 {
					t.Errorf("a round %s is put", kind)
				}
				if list, ok := impl.VaultsSet(kinds, list, 1, v); ok || len(list) != 0 {
					t.Errorf("a round %s is set", kind)
				}
			}
			if impl.VaultsOk(kinds, []impl.Kept{{Owner: 1, Of: v}}) || impl.VaultsText(kinds, []impl.Kept{{Owner: 1, Of: v}}) != "" {
				t.Errorf("vaults with a round %s are ones", kind)
			}
		}
	}
}

// withVaults are kinds, vaults that may be none, and values.
type withVaults struct {
	kinds  [][]impl.Record
	list   []impl.Kept
	values []impl.Value
}

// spoiltVaults changes one thing of vaults.
func spoiltVaults(r *rand.Rand, list []impl.Kept) []impl.Kept {
	if len(list) == 0 {
		return []impl.Kept{{Owner: r.Intn(4), Of: []impl.Value{{}, num(1), truth(0), owner(1), val("S33"), val("S00", val("S00"))}[r.Intn(6)]}}
	}
	a, b := r.Intn(len(list)), r.Intn(len(list))
	switch r.Intn(5) {
	case 0:
		list[a], list[b] = list[b], list[a]
	case 1:
		list = slices.Insert(list, b, list[a])
	case 2:
		list[a].Owner += r.Intn(9) - 4
	case 3:
		list[a].Of = spoilt(r, list[a].Of)
	case 4:
		list[a].Of = list[b].Of
	}
	return list
}

// vaultsMany are vaults by chance, of many kinds, always the same ones: good ones, and such with one thing changed.
func vaultsMany() []withVaults {
	r := rand.New(rand.NewSource(96))
	list := []withVaults{{kinds: kindsFull(), list: allOf(r, kindsFull())}, {kinds: kindsKept(), list: allOf(r, kindsKept())}}
	kindLists := slices.Concat(slices.Repeat([][][]impl.Record{kindsKept(), kindsFull(), kindsOfValues()}, 150), kindsMany()[:900])
	for _, kinds := range kindLists {
		one := withVaults{kinds: kinds, values: []impl.Value{{}, num(3), val("S00"), val("S01"), val("S00", num(1))}}
		if bad, _ := badWanted(kinds); bad != -1 {
			one.list = []impl.Kept{{Of: val("S00")}}[:r.Intn(2)]
			list = append(list, one)
			continue
		}
		for _, kept := range allOf(r, kinds) {
			one.values = append(one.values, someValue(r, kinds, kept.Of.Type), spoilt(r, someValue(r, kinds, kept.Of.Type)))
			if r.Intn(3) > 0 {
				one.list = append(one.list, kept)
			}
		}
		one.values = someOf(r, 12, one.values)
		if r.Intn(3) == 0 {
			one.list = spoiltVaults(r, one.list)
		}
		list = append(list, one)
	}
	return list
}

// eachSpot does something with all owners, and one beyond and one negative, and all kinds and some texts that are none.
func eachSpot(do func(o int, kind string)) {
	for _, o := range []int{0, 1, 2, 3, 4, -1} {
		for _, kind := range append(kindTexts(), "n", "", "&S00") {
			do(o, kind)
		}
	}
}

// TestVaultsMany holds all functions of vaults against the document's words.
func TestVaultsMany(t *testing.T) {
	whole, took, put, set := tally{}, tally{}, tally{}, tally{}
	for _, c := range vaultsMany() {
		whole.count(checkKept(t, c.kinds, c.list))
		eachSpot(func(o int, kind string) { took.count(checkTake(t, c.kinds, c.list, o, kind)) })
		for _, v := range c.values {
			for _, o := range []int{0, 1, 2, 3, 4, -1} {
				a, b := checkPut(t, c.kinds, c.list, o, v)
				put.count(a)
				set.count(b)
			}
		}
	}
	whole.enough(t, 300, 300)
	took.enough(t, 3000, 3000)
	put.enough(t, 1000, 3000)
	set.enough(t, 1000, 3000)
}

// TestVaultsModel puts, takes and sets by chance, and holds the vaults against a map of what is kept.
func TestVaultsModel(t *testing.T) {
	kinds := kindsFull()
	r := rand.New(rand.NewSource(97))
	kept, list := map[string]string{}, []impl.Kept{}
	full := tally{}
	for step := range 4000 {
		o, kind := r.Intn(4), pick(r, kindTexts())
		spot := "@" + strconv.Itoa(o) + " " + kind
		v := someValue(r, kinds, kind)
		was, has := kept[spot]
		var next []impl.Kept
		ok, told := false, false
		switch n := r.Intn(4); {
		case n == 0 || n == 1 && step%1000 > 500:
			var got impl.Value
			next, got, ok = impl.VaultsTake(kinds, list, o, kind)
			if told = ok == has && impl.ValueText(kinds, got) == was; ok {
				delete(kept, spot)
			}
		case n == 1:
			next, ok = impl.VaultsSet(kinds, list, o, v)
			if told = ok == has; ok {
				kept[spot] = impl.ValueText(kinds, v)
			}
		default:
			next, ok = impl.VaultsPut(kinds, list, o, v)
			if told = ok != has; ok {
				kept[spot] = impl.ValueText(kinds, v)
			}
		}
		if !told || !ok && len(next) > 0 {
			t.Fatalf("of %s in %v is told %v %v", spot, kept, next, ok)
		}
		if ok {
			list = next
		}
		lines := []string{}
		for spot, text := range kept {
			lines = append(lines, spot[:3]+text+"\n")
		}
		slices.Sort(lines)
		if got := impl.VaultsText(kinds, list); got != strings.Join(lines, "") {
			t.Fatalf("VaultsText told %q, not %q", got, lines)
		}
		full.count(len(list) > 24)
	}
	full.enough(t, 100, 1000)
}

// spoilValue changes all of a value, and puts parts and numbers behind those that are there.
func spoilValue(v *impl.Value) {
	_ = append(v.Parts, num(901), num(902), num(903))
	for k := range v.Parts[:cap(v.Parts)] {
		spoilValue(&v.Parts[:cap(v.Parts)][k])
	}
	for k := range v.Path[:cap(v.Path)] {
		v.Path[:cap(v.Path)][k] = 904
	}
	*v = impl.Value{Type: "x", N: 905}
}

// spoilKept changes all of vaults, and puts records behind those that are there.
func spoilKept(list []impl.Kept) {
	_ = append(list, impl.Kept{Owner: 9}, impl.Kept{Owner: 9}, impl.Kept{Owner: 9})
	for k := range list[:cap(list)] {
		kept := &list[:cap(list)][k]
		spoilValue(&kept.Of)
		kept.Owner = 9
	}
}

// isRoomyValue reports whether the room behind lists of a value is empty.
func isRoomyValue(v impl.Value) bool {
	for _, part := range v.Parts[len(v.Parts):cap(v.Parts)] {
		if !reflect.DeepEqual(part, impl.Value{}) {
			return false
		}
	}
	for _, n := range v.Path[len(v.Path):cap(v.Path)] {
		if n != 0 {
			return false
		}
	}
	for _, part := range v.Parts {
		if !isRoomyValue(part) {
			return false
		}
	}
	return true
}

// isRoomyKept reports whether the room behind lists of vaults is empty.
func isRoomyKept(list []impl.Kept) bool {
	for _, kept := range list[len(list):cap(list)] {
		if !reflect.DeepEqual(kept, impl.Kept{}) {
			return false
		}
	}
	return !slices.ContainsFunc(list, func(kept impl.Kept) bool { return !isRoomyValue(kept.Of) })
}

// A given is the arguments of a call, with what they are to stay.
type given struct {
	list, listIs []impl.Kept
	v, vIs       impl.Value
}

func givenOf(list []impl.Kept, v impl.Value) given {
	return given{cloneKept(list), cloneKept(list), cloneValue(v), cloneValue(v)}
}

// stays holds that nothing was written into the arguments.
func (g given) stays(t *testing.T, name string) {
	t.Helper()
	if !reflect.DeepEqual(g.list, g.listIs) || !reflect.DeepEqual(g.v, g.vIs) || !isRoomyKept(g.list) || !isRoomyValue(g.v) {
		t.Fatalf("%s changed %v and %v to %v and %v", name, g.listIs, g.vIs, g.list, g.v)
	}
}

// TestVaultsApart changes all results, and holds that neither arguments nor other results are changed.
func TestVaultsApart(t *testing.T) {
	told := tally{}
	for _, c := range vaultsMany()[:80] {
		for _, v := range append(c.values, val("S00", num(4))) {
			for o := range 4 {
				g := givenOf(c.list, v)
				got, ok := impl.VaultsGet(c.kinds, g.list, o, v.Type)
				spoilValue(&got)
				g.stays(t, "VaultsGet")
				told.count(ok)
				put, ok := impl.VaultsPut(c.kinds, g.list, o, g.v)
				spoilKept(put)
				g.stays(t, "VaultsPut")
				told.count(ok)
				set, ok := impl.VaultsSet(c.kinds, g.list, o, g.v)
				spoilKept(set)
				g.stays(t, "VaultsSet")
				told.count(ok)
				rest, took, ok := impl.VaultsTake(c.kinds, g.list, o, v.Type)
				tookIs := cloneValue(took)
				spoilKept(rest)
				g.stays(t, "VaultsTake")
				if !sameValue(took, tookIs) {
					t.Fatalf("what was taken, %v, shares memory with the vaults", tookIs)
				}
				rest, took, _ = impl.VaultsTake(c.kinds, g.list, o, v.Type)
				restIs := cloneKept(rest)
				spoilValue(&took)
				g.stays(t, "VaultsTake")
				if !sameKept(rest, restIs) {
					t.Fatalf("the vaults %v share memory with what was taken", restIs)
				}
				told.count(ok)
			}
		}
	}
	told.enough(t, 1000, 1000)
}

// TestVaultsApartWithin changes each record of a result, and each part, and holds that no other one is changed, also where those of the arguments are the same memory.
func TestVaultsApartWithin(t *testing.T) {
	kinds := [][]impl.Record{{rec(12, "n"), rec(12, "S00", "S00"), rec(12, "S01", "S01")}}
	one := []impl.Value{num(1)}
	two := []impl.Value{{Type: "S00", Parts: one}, {Type: "S00", Parts: one}}
	v := impl.Value{Type: "S02", Parts: []impl.Value{{Type: "S01", Parts: two}, {Type: "S01", Parts: two}}}
	list := []impl.Kept{{Owner: 0, Of: v}, {Owner: 1, Of: v}, {Owner: 2, Of: v}}
	put, _ := impl.VaultsPut(kinds, list, 3, v)
	set, _ := impl.VaultsSet(kinds, list, 1, v)
	rest, took, _ := impl.VaultsTake(kinds, list, 2, "S02")
	got, _ := impl.VaultsGet(kinds, list, 0, "S02")
	for name, result := range map[string][]impl.Kept{"VaultsPut": put, "VaultsSet": set, "VaultsTake": append(slices.Clone(rest), impl.Kept{Of: took}), "VaultsGet": {{Of: got}}} {
		n := 0
		number := func(leaf *impl.Value) { n++; leaf.N = n }
		for k := range result {
			eachLeaf(&result[k].Of, number)
		}
		n = 0
		for k := range result {
			eachLeaf(&result[k].Of, func(leaf *impl.Value) {
				if n++; leaf.N != n {
					t.Fatalf("two parts of what %s told share memory", name)
				}
			})
		}
		if n != 4*len(result) || n == 0 {
			t.Fatalf("%s told %v", name, result)
		}
	}
	if one[0].N != 1 {
		t.Error("an argument shares memory with a result")
	}
}

// eachLeaf does something with all parts of a value that have no parts.
func eachLeaf(v *impl.Value, do func(*impl.Value)) {
	if len(v.Parts) == 0 {
		do(v)
	}
	for k := range v.Parts {
		eachLeaf(&v.Parts[k], do)
	}
}

func TestVaultsKeepArguments(t *testing.T) {
	kinds, kindsIs := kindsKept(), kindsKept()
	for _, c := range vaultsMany()[:150] {
		g := givenOf(c.list, val("S00", num(4)))
		of, ofIs := c.kinds, slices.Clone(c.kinds)
		for m := range ofIs {
			ofIs[m] = slices.Clone(ofIs[m])
			for i := range ofIs[m] {
				ofIs[m][i].Fields = slices.Clone(ofIs[m][i].Fields)
			}
		}
		for _, k := range [][][]impl.Record{of, kinds} {
			impl.VaultsOk(k, g.list)
			impl.VaultsText(k, g.list)
			impl.VaultsCount(k, g.list, "S00")
			impl.VaultsGet(k, g.list, 1, "S00")
			impl.VaultsTake(k, g.list, 1, "S00")
			impl.VaultsPut(k, g.list, 1, g.v)
			impl.VaultsSet(k, g.list, 1, g.v)
		}
		g.stays(t, "one of all")
		if !reflect.DeepEqual(of, ofIs) || !reflect.DeepEqual(kinds, kindsIs) {
			t.Fatalf("the kinds %v were changed to %v", ofIs, of)
		}
	}
}

func TestPromise35(t *testing.T) {
	c, none := tally{}, tally{}
	for _, one := range vaultsMany() {
		ok := impl.VaultsOk(one.kinds, one.list)
		c.count(ok)
		for _, kept := range one.list {
			v, found := impl.VaultsGet(one.kinds, one.list, kept.Owner, kept.Of.Type)
			if found != ok || ok && !sameValue(v, kept.Of) || !ok && !isNothing(v) {
				t.Fatalf("in %v, VaultsGet of %v in %v told %v %v", one.kinds, kept, one.list, v, found)
			}
		}
		eachSpot(func(o int, kind string) {
			_, has := getWanted(one.list, o, kind)
			_, found := impl.VaultsGet(one.kinds, one.list, o, kind)
			if none.count(found); found != (ok && has) {
				t.Fatalf("in %v, VaultsGet of %q of %d in %v told %v", one.kinds, kind, o, one.list, found)
			}
		})
	}
	c.enough(t, 300, 300)
	none.enough(t, 3000, 3000)
}

func TestPromise36(t *testing.T) {
	c := tally{}
	for _, one := range vaultsMany() {
		eachSpot(func(o int, kind string) {
			v, found := impl.VaultsGet(one.kinds, one.list, o, kind)
			_, took, ok := impl.VaultsTake(one.kinds, one.list, o, kind)
			if c.count(ok); ok != found || !sameValue(v, took) {
				t.Fatalf("in %v, of %q of %d in %v is got %v %v, and taken %v %v", one.kinds, kind, o, one.list, v, found, took, ok)
			}
		})
	}
	c.enough(t, 3000, 3000)
}

func TestPromise37(t *testing.T) {
	c := tally{}
	for _, one := range vaultsMany() {
		for _, v := range one.values {
			for _, o := range []int{0, 1, 2, 3, 4, -1} {
				put, ok := impl.VaultsPut(one.kinds, one.list, o, v)
				if c.count(ok); !ok {
					continue
				}
				rest, took, ok := impl.VaultsTake(one.kinds, put, o, v.Type)
				if !ok || !sameValue(took, v) || !sameKept(rest, one.list) || !impl.VaultsOk(one.kinds, put) {
					t.Fatalf("in %v, behind VaultsPut of %v for %d to %v, VaultsTake told %v %v %v", one.kinds, v, o, one.list, rest, took, ok)
				}
			}
		}
	}
	c.enough(t, 1000, 3000)
}

func TestPromise38(t *testing.T) {
	c := tally{}
	for _, one := range vaultsMany() {
		eachSpot(func(o int, kind string) {
			rest, took, ok := impl.VaultsTake(one.kinds, one.list, o, kind)
			if c.count(ok); !ok {
				return
			}
			put, ok := impl.VaultsPut(one.kinds, rest, o, took)
			if !ok || !sameKept(put, one.list) || !impl.VaultsOk(one.kinds, rest) {
				t.Fatalf("in %v, behind VaultsTake of %q of %d from %v, VaultsPut told %v %v", one.kinds, kind, o, one.list, put, ok)
			}
		})
	}
	c.enough(t, 3000, 3000)
}

func TestPromise39(t *testing.T) {
	c := tally{}
	for _, one := range vaultsMany() {
		for _, v := range one.values {
			for _, o := range []int{0, 1, 2, 3, 4, -1} {
				set, ok := impl.VaultsSet(one.kinds, one.list, o, v)
				if c.count(ok); !ok {
					continue
				}
				rest, _, _ := impl.VaultsTake(one.kinds, one.list, o, v.Type)
				put, ok := impl.VaultsPut(one.kinds, rest, o, v)
				if !ok || !sameKept(put, set) || !impl.VaultsOk(one.kinds, set) {
					t.Fatalf("in %v, VaultsSet of %v for %d to %v told %v, not %v", one.kinds, v, o, one.list, set, put)
				}
			}
		}
	}
	c.enough(t, 1000, 3000)
}

func TestPromise40(t *testing.T) {
	c, some := tally{}, tally{}
	for _, one := range vaultsMany() {
		ok := impl.VaultsOk(one.kinds, one.list)
		for _, kind := range append(kindTexts(), "n", "", "&S00") {
			want := -1
			if isKind := len(kind) == 3 && impl.TypeOk(one.kinds, kind); ok && isKind {
				want = 0
			}
			c.count(want == 0)
			for _, kept := range one.list {
				if want >= 0 {
					want += impl.ValueCount(one.kinds, kept.Of, kind)
				}
			}
			got := impl.VaultsCount(one.kinds, one.list, kind)
			if some.count(got > 0); got != want {
				t.Fatalf("in %v, VaultsCount of %q in %v told %d, not %d", one.kinds, kind, one.list, got, want)
			}
		}
	}
	c.enough(t, 2000, 3000)
	some.enough(t, 1000, 1000)
}

func TestPromise41(t *testing.T) {
	c := tally{}
	for _, one := range vaultsMany() {
		want := 0
		if impl.VaultsOk(one.kinds, one.list) {
			want = len(one.list)
		}
		text := impl.VaultsText(one.kinds, one.list)
		if c.count(want > 0); strings.Count(text, "\n") != want || text != "" && !strings.HasSuffix(text, "\n") {
			t.Fatalf("in %v, VaultsText of %v told %q", one.kinds, one.list, text)
		}
	}
	c.enough(t, 300, 300)
}

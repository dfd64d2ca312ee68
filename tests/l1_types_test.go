package tests

import (
	"math/rand"
	"reflect"
	"strconv"
	"strings"
	"testing"

	"loop.example/heirlooms/impl"
)

// rec writes a kind of records in short.
func rec(able int, fields ...string) impl.Record {
	return impl.Record{Able: able, Fields: fields}
}

// kindsGood are kinds of all sorts: a full shelf, one with empty modules, and none at all.
func kindsGood() [][][]impl.Record {
	return [][][]impl.Record{
		nil,
		{},
		{{}},
		{{}, nil, {rec(15)}},
		{{rec(0)}},
		{{rec(7, "n", "b", "o"), rec(12, "S00"), rec(8, "S00", "n")}},
		{
			{rec(4, "n"), rec(12, "S00"), rec(0, "S01", "S00", "o")},
			{rec(15), rec(7, "b", "n", "S10"), rec(12, "S11", "S00")},
			{rec(1, "n"), rec(2, "S11"), rec(0, "S20", "S21", "S12")},
		},
	}
}

// typesSome are texts, of which some are types of some kinds and some of none.
func typesSome() []string {
	list := []string{"", "&", "!", "S", "S0", "S000", "S00 ", " S00", "s00", "S0a", "Sa0", "S-1", "S+0", "N", "B", "O", "nn", "bo", "n ", "&&n", "!!n", "&!n", "!&n", "n&", "SS0", "S\x00\x00", "\xff", "ñ", "&\xff", "Sn", "&S", "!S1", "S٠٠"}
	for _, sign := range []string{"", "&", "!"} {
		for _, t := range []string{"n", "b", "o", "x", "r"} {
			list = append(list, sign+t)
		}
		for n := range 100 {
			list = append(list, sign+"S"+strconv.Itoa(n/10)+strconv.Itoa(n%10))
		}
	}
	return list
}

// oddKinds returns kinds by a rule of a seed, often bad ones.
func oddKinds(r *rand.Rand) [][]impl.Record {
	texts := []string{"n", "b", "o", "n", "S00", "S01", "S10", "S11", "S20", "S02", "S12", "S21", "&n", "!S00", "x", ""}
	ables := []int{0, 0, 2, 4, 4, 5, 7, 7, 12, 12, 12, 15, 16, -1}
	kinds := make([][]impl.Record, r.Intn(5))
	for m := range kinds {
		kinds[m] = make([]impl.Record, r.Intn(4+r.Intn(2)))
		for i := range kinds[m] {
			one := impl.Record{Able: ables[r.Intn(len(ables)-r.Intn(3))]}
			for range r.Intn(4 + r.Intn(10)/9) {
				one.Fields = append(one.Fields, texts[r.Intn(len(texts)-r.Intn(10))])
			}
			kinds[m][i] = one
		}
	}
	return kinds
}

// kindsMany are good kinds, kinds with one fault each, and many by chance, always the same ones.
func kindsMany() [][][]impl.Record {
	list := kindsGood()
	for _, c := range kindsFaulty() {
		list = append(list, c.kinds)
	}
	r := rand.New(rand.NewSource(1))
	for range 3000 {
		list = append(list, oddKinds(r))
	}
	return list
}

// plainWanted tells by the document's words the abilities of a plain type, among kinds below a module and a record of it; -1 if it is none.
func plainWanted(kinds [][]impl.Record, t string, m int, i int) int {
	if t == "n" || t == "b" || t == "o" {
		return impl.AbleCopy + impl.AbleDrop + impl.AbleStore
	}
	for a := 0; a <= m && a < len(kinds); a++ {
		for b := range kinds[a] {
			if (a < m || b < i) && t == "S"+strconv.Itoa(a)+strconv.Itoa(b) {
				return kinds[a][b].Able
			}
		}
	}
	return -1
}

// ableWanted tells the abilities of a type of good kinds; -1 if it is none.
func ableWanted(kinds [][]impl.Record, t string) int {
	for _, sign := range []string{"&", "!"} {
		if plain, ok := strings.CutPrefix(t, sign); ok {
			if plainWanted(kinds, plain, len(kinds), 0) == -1 {
				return -1
			}
			return map[string]int{"&": 3, "!": 2}[sign]
		}
	}
	return plainWanted(kinds, t, len(kinds), 0)
}

// badWanted tells by the document's words what KindsBad returns.
func badWanted(kinds [][]impl.Record) (int, int) {
	if len(kinds) > 3 {
		return 3, 0
	}
	for m := range kinds {
		if len(kinds[m]) > 3 {
			return m, 3
		}
		for i, one := range kinds[m] {
			bad := one.Able < 0 || one.Able > 15 || len(one.Fields) > 3
			for _, field := range one.Fields {
				able := plainWanted(kinds, field, m, i)
				bad = bad || able == -1
				for _, a := range []int{impl.AbleCopy, impl.AbleDrop} {
					bad = bad || one.Able&a != 0 && able&a == 0
				}
				bad = bad || one.Able >= impl.AbleStore && able&impl.AbleStore == 0
			}
			if bad {
				return m, i
			}
		}
	}
	return -1, -1
}

// holdsWanted tells whether a value of a type of good kinds holds a record of a kind.
func holdsWanted(kinds [][]impl.Record, t string, in string) bool {
	if len(t) != 3 || ableWanted(kinds, t) == -1 {
		return false
	}
	if t == in {
		return true
	}
	for _, field := range kinds[t[1]-'0'][t[2]-'0'].Fields {
		if holdsWanted(kinds, field, in) {
			return true
		}
	}
	return false
}

// faulty are kinds, and what KindsBad tells of them.
type faulty struct {
	name  string
	kinds [][]impl.Record
	m, r  int
}

func kindsFaulty() []faulty {
	ok := rec(7, "n")
	list := []faulty{
		{"too many modules", [][]impl.Record{{}, {}, {}, {}}, 3, 0},
		{"far too many modules", make([][]impl.Record, 1000), 3, 0},
		{"too many modules, and a bad record", [][]impl.Record{{rec(99)}, {}, {}, {}}, 3, 0},
		{"too many modules, and too many records", [][]impl.Record{make([]impl.Record, 4), {}, {}, {}}, 3, 0},
		{"too many records", [][]impl.Record{{ok, ok, ok, ok}}, 0, 3},
		{"too many records of a later module", [][]impl.Record{{ok}, {}, {ok, ok, ok, ok, ok}}, 2, 3},
		{"too many records ahead of a bad one among them", [][]impl.Record{{ok}, {rec(99), ok, ok, ok}}, 1, 3},
		{"a bad record ahead of too many of a later module", [][]impl.Record{{ok, rec(99)}, {ok, ok, ok, ok}}, 0, 1},
		{"too many fields", [][]impl.Record{{ok, ok, rec(7, "n", "n", "n", "n")}}, 0, 2},
		{"too many fields without abilities", [][]impl.Record{{rec(0, "n", "b", "o", "n")}}, 0, 0},
		{"abilities above all", [][]impl.Record{{rec(16)}}, 0, 0},
		{"abilities far above all", [][]impl.Record{{rec(1<<30 + 7)}}, 0, 0},
		{"abilities below none", [][]impl.Record{{}, {rec(15), rec(-1)}}, 1, 1},
		{"abilities far below none", [][]impl.Record{{rec(-16)}}, 0, 0},
		{"the first one of two", [][]impl.Record{{ok}, {ok, rec(16)}, {rec(16)}}, 1, 1},
		{"a field of a later module", [][]impl.Record{{rec(0, "S10")}, {ok}}, 0, 0},
		{"a field of a later record", [][]impl.Record{{rec(0, "S01"), ok}}, 0, 0},
		{"a field of the record itself", [][]impl.Record{{ok, rec(0, "S01")}}, 0, 1},
		{"a field of the first record itself", [][]impl.Record{{rec(0, "S00")}}, 0, 0},
		{"the second of two that have each other", [][]impl.Record{{rec(0)}, {rec(0, "S00"), rec(0, "S12"), rec(0, "S11")}}, 1, 1},
		{"a field of a record that an earlier module has not", [][]impl.Record{{ok}, {rec(0, "S01")}}, 1, 0},
		{"a field of a module that is none", [][]impl.Record{{ok}, {rec(0, "S30")}}, 1, 0},
		{"the last field is bad", [][]impl.Record{{rec(0, "n", "b", "x")}}, 0, 0},
		{"a field that is kept, not stored", [][]impl.Record{{rec(8), rec(8, "S00")}}, 0, 1},
	}
	for _, t := range []string{"", "x", "N", "nn", "S", "S0", "S000", "S0a", "&n", "!n", "&S00", "!S00", " n", "&", "!"} {
		list = append(list, faulty{"a field " + strconv.Quote(t), [][]impl.Record{{ok, rec(0, t)}}, 0, 1})
	}
	return list
}

func TestKindsBadFaults(t *testing.T) {
	for _, c := range kindsFaulty() {
		if m, r := impl.KindsBad(c.kinds); m != c.m || r != c.r {
			t.Errorf("%s: KindsBad told %d %d, not %d %d", c.name, m, r, c.m, c.r)
		}
	}
	for i, kinds := range kindsGood() {
		if m, r := impl.KindsBad(kinds); m != -1 || r != -1 {
			t.Errorf("good kinds %d: KindsBad told %d %d", i, m, r)
		}
	}
}

func TestKindsBadMany(t *testing.T) {
	for _, kinds := range kindsMany() {
		m, r := impl.KindsBad(kinds)
		if wantM, wantR := badWanted(kinds); m != wantM || r != wantR {
			t.Fatalf("KindsBad of %v told %d %d, not %d %d", kinds, m, r, wantM, wantR)
		}
	}
}

// TestKindsAbles goes through all abilities of a field and of a record that has it, in each of its three fields.
func TestKindsAbles(t *testing.T) {
	for field := range 16 {
		for able := range 16 {
			for at := range 3 {
				fields := []string{"S00", "S00", "S00"}
				fields[at] = "S01"
				kinds := [][]impl.Record{{rec(15), rec(field)}, {rec(able, fields...)}}
				want := able&3&^field == 0 && (able < 4 || field&4 != 0)
				if impl.KindsOk(kinds) != want {
					t.Errorf("a record %d with a field %d at %d: KindsOk told %v", able, field, at, !want)
				}
			}
		}
	}
	for able := range 16 {
		for _, field := range []string{"n", "b", "o"} {
			if !impl.KindsOk([][]impl.Record{{rec(able, field)}}) {
				t.Errorf("a record %d with a field %s is none", able, field)
			}
		}
	}
}

// TestKindsLimits holds that the limits are inclusive.
func TestKindsLimits(t *testing.T) {
	full := make([][]impl.Record, impl.ModulesMost)
	for m := range full {
		for range impl.RecordsMost {
			full[m] = append(full[m], rec(impl.AbleTop, "n", "b", "o"))
		}
	}
	if !impl.KindsOk(full) {
		t.Error("kinds with all that there may be are none")
	}
	if !impl.TypeOk(full, "S22") || impl.TypeOk(full, "S23") || impl.TypeOk(full, "S32") {
		t.Error("the last kind is not S22")
	}
}

func TestConstants(t *testing.T) {
	got := []int{impl.ModulesMost, impl.RecordsMost, impl.FieldsMost, impl.AbleCopy, impl.AbleDrop, impl.AbleStore, impl.AbleKeep, impl.AbleTop}
	if !reflect.DeepEqual(got, []int{3, 3, 3, 1, 2, 4, 8, 15}) {
		t.Errorf("the constants are %v", got)
	}
}

func TestTypeAble(t *testing.T) {
	kinds := kindsGood()[6]
	for text, want := range map[string]int{
		"n": 7, "b": 7, "o": 7, "&n": 3, "!n": 2, "&o": 3, "!b": 2,
		"S00": 4, "S01": 12, "S02": 0, "S10": 15, "S11": 7, "S12": 12, "S20": 1, "S21": 2, "S22": 0,
		"&S02": 3, "!S02": 2, "&S10": 3, "!S10": 2,
		"S03": -1, "S30": -1, "&S03": -1, "!S30": -1, "": -1, "&": -1, "!": -1, "x": -1, "nn": -1, "&&n": -1, "!&n": -1, "S000": -1, "S0": -1, "S": -1,
	} {
		if got := impl.TypeAble(kinds, text); got != want {
			t.Errorf("TypeAble of %q told %d, not %d", text, got, want)
		}
	}
}

// TestTypesMany holds all functions of types against the document's words, for many kinds and texts.
func TestTypesMany(t *testing.T) {
	for _, kinds := range kindsMany()[:400] {
		bad, _ := badWanted(kinds)
		for _, text := range typesSome() {
			want, plain := -1, ""
			if bad == -1 {
				want = ableWanted(kinds, text)
			}
			if want != -1 {
				plain = strings.TrimLeft(text, "&!")
			}
			if got := impl.TypeAble(kinds, text); got != want {
				t.Fatalf("TypeAble of %v and %q told %d, not %d", kinds, text, got, want)
			}
			if got, ok := impl.TypePlain(kinds, text); got != plain || ok != (want != -1) {
				t.Fatalf("TypePlain of %v and %q told %q %v", kinds, text, got, ok)
			}
		}
	}
}

// TestTypesOfNoKinds holds that there are no types, not even the numbers, where the kinds are none.
func TestTypesOfNoKinds(t *testing.T) {
	for _, c := range kindsFaulty() {
		for _, text := range []string{"n", "&b", "!o", "S00", "&S00"} {
			plain, ok := impl.TypePlain(c.kinds, text)
			if impl.TypeOk(c.kinds, text) || impl.TypeAble(c.kinds, text) != -1 || plain != "" || ok {
				t.Errorf("%s: %q is a type", c.name, text)
			}
			if impl.TypeHolds(c.kinds, text, text) {
				t.Errorf("%s: %q holds itself", c.name, text)
			}
		}
	}
}

func TestTypeHolds(t *testing.T) {
	kinds := kindsGood()[6]
	for _, c := range []struct {
		t, in string
		want  bool
	}{
		{"S00", "S00", true}, {"S01", "S00", true}, {"S02", "S00", true}, {"S02", "S01", true},
		{"S22", "S10", true}, {"S22", "S00", true}, {"S22", "S11", true}, {"S22", "S22", true},
		{"S22", "S01", false}, {"S00", "S01", false}, {"S21", "S20", false}, {"S20", "S00", false},
		{"&S00", "S00", false}, {"!S00", "S00", false}, {"&S01", "S00", false},
		{"S00", "&S00", false}, {"&S00", "&S00", false}, {"!S00", "!S00", false},
		{"n", "n", false}, {"S00", "n", false}, {"n", "S00", false}, {"b", "b", false},
		{"S03", "S03", false}, {"S30", "S00", false}, {"S00", "S03", false}, {"", "", false}, {"", "S00", false}, {"S00", "", false}, {"x", "S00", false},
	} {
		if got := impl.TypeHolds(kinds, c.t, c.in); got != c.want {
			t.Errorf("TypeHolds of %q and %q told %v", c.t, c.in, got)
		}
	}
}

func TestTypeHoldsMany(t *testing.T) {
	texts := []string{"n", "&n", "x", "", "S00", "S01", "S02", "S10", "S11", "S12", "S20", "S21", "S22", "S23", "S30", "&S00", "!S10"}
	for _, kinds := range kindsMany() {
		bad, _ := badWanted(kinds)
		for _, text := range texts {
			for _, in := range texts {
				want := bad == -1 && len(in) == 3 && holdsWanted(kinds, text, in)
				if got := impl.TypeHolds(kinds, text, in); got != want {
					t.Fatalf("TypeHolds of %v, %q and %q told %v", kinds, text, in, got)
				}
			}
		}
	}
}

// TestTypesKeepArguments holds that kinds are not changed.
func TestTypesKeepArguments(t *testing.T) {
	kinds, same := kindsGood(), kindsGood()
	for i := range kinds {
		for _, text := range typesSome() {
			impl.KindsBad(kinds[i])
			impl.KindsOk(kinds[i])
			impl.TypeOk(kinds[i], text)
			impl.TypePlain(kinds[i], text)
			impl.TypeAble(kinds[i], text)
			impl.TypeHolds(kinds[i], text, "S00")
		}
	}
	if !reflect.DeepEqual(kinds, same) {
		t.Error("kinds were changed")
	}
}

func TestPromise1(t *testing.T) {
	for _, kinds := range kindsMany()[:400] {
		for _, text := range typesSome() {
			if impl.TypeOk(kinds, text) != (impl.TypeAble(kinds, text) != -1) {
				t.Fatalf("TypeOk of %v and %q told %v", kinds, text, impl.TypeOk(kinds, text))
			}
		}
	}
}

func TestPromise2(t *testing.T) {
	told := 0
	for _, kinds := range kindsMany()[:400] {
		for _, text := range typesSome() {
			plain, ok := impl.TypePlain(kinds, text)
			if !ok {
				continue
			}
			told++
			again, ok := impl.TypePlain(kinds, plain)
			if !ok || again != plain || !impl.TypeOk(kinds, "&"+plain) || !impl.TypeOk(kinds, "!"+plain) {
				t.Fatalf("TypePlain of %v and %q told %q", kinds, text, plain)
			}
		}
	}
	if told == 0 {
		t.Error("TypePlain told nothing")
	}
}

func TestPromise3(t *testing.T) {
	for i, kinds := range kindsGood() {
		for _, text := range typesSome() {
			if _, ok := impl.TypePlain(kinds, text); !ok || len(text) == 2 || len(text) == 4 {
				continue
			}
			if impl.TypeAble(kinds, "&"+text) != 3 || impl.TypeAble(kinds, "!"+text) != 2 {
				t.Errorf("kinds %d: the references to %q have %d and %d", i, text, impl.TypeAble(kinds, "&"+text), impl.TypeAble(kinds, "!"+text))
			}
		}
	}
}

func TestPromise4(t *testing.T) {
	for _, kinds := range kindsMany() {
		if len(kinds) > 0 && impl.KindsOk(kinds) && !impl.KindsOk(kinds[:len(kinds)-1]) {
			t.Fatalf("KindsOk of %v holds not without the last module", kinds)
		}
	}
}

func TestPromise5(t *testing.T) {
	good := 0
	for _, kinds := range kindsMany() {
		m, r := impl.KindsBad(kinds)
		ok := impl.KindsOk(kinds)
		if ok != (m == -1) || ok != (r == -1) {
			t.Fatalf("KindsOk of %v told %v, and KindsBad %d %d", kinds, ok, m, r)
		}
		if ok {
			good++
		}
	}
	if good < 200 || good > 2800 {
		t.Errorf("of the kinds %d are good", good)
	}
}

func TestPromise6(t *testing.T) {
	for _, kinds := range kindsMany()[:400] {
		for _, text := range typesSome() {
			for _, in := range []string{"S00", "S01", "S02", "S10", "S11", "S12", "S20", "S21", "S22"} {
				if impl.TypeHolds(kinds, text, in) && impl.TypeAble(kinds, text)&3&^impl.TypeAble(kinds, in) != 0 {
					t.Fatalf("in %v, %q has an ability that %q has not", kinds, text, in)
				}
			}
		}
	}
}

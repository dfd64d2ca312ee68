package tests

import (
	"math"
	"math/rand"
	"reflect"
	"strconv"
	"strings"
	"testing"

	"loop.example/heirlooms/impl"
)

// num, truth, owner and val write values in short.
func num(n int) impl.Value { return impl.Value{Type: "n", N: n} }

func truth(n int) impl.Value { return impl.Value{Type: "b", N: n} }

func owner(n int) impl.Value { return impl.Value{Type: "o", N: n} }

func val(t string, parts ...impl.Value) impl.Value { return impl.Value{Type: t, Parts: parts} }

// kindsDeep are kinds of which each has three fields of the one ahead, as many as there may be.
func kindsDeep() [][]impl.Record {
	kinds, field := make([][]impl.Record, 3), "n"
	for m := range kinds {
		for i := range 3 {
			kinds[m] = append(kinds[m], rec(7, field, field, field))
			field = "S" + strconv.Itoa(m) + strconv.Itoa(i)
		}
	}
	return kinds
}

// kindsOfValues are the kinds of the values that are written out here.
func kindsOfValues() [][]impl.Record {
	return [][]impl.Record{
		{rec(7, "n", "b", "o"), rec(12, "S00"), rec(0)},
		{rec(4), rec(12, "S00", "n"), rec(8, "S10", "S11", "S10")},
		{},
	}
}

// written is a value of kindsOfValues, its text, and how many values it has.
type written struct {
	v    impl.Value
	text string
	size int
}

func valuesWritten() []written {
	first := val("S00", num(7), truth(1), owner(3))
	return []written{
		{num(0), "0", 1}, {num(1), "1", 1}, {num(9), "9", 1}, {num(10), "10", 1}, {num(407), "407", 1}, {num(999999), "999999", 1}, {num(1000000), "1000000", 1},
		{truth(0), "-", 1}, {truth(1), "+", 1},
		{owner(0), "@0", 1}, {owner(1), "@1", 1}, {owner(2), "@2", 1}, {owner(3), "@3", 1},
		{val("S02"), "S02()", 1}, {val("S10"), "S10()", 1},
		{first, "S00(7 + @3)", 4},
		{val("S00", num(1000000), truth(0), owner(0)), "S00(1000000 - @0)", 4},
		{val("S01", first), "S01(S00(7 + @3))", 5},
		{val("S11", first, num(20)), "S11(S00(7 + @3) 20)", 6},
		{val("S12", val("S10"), val("S11", first, num(0)), val("S10")), "S12(S10() S11(S00(7 + @3) 0) S10())", 9},
	}
}

// valuesNone are values that are none of kindsOfValues.
func valuesNone() []impl.Value {
	first := val("S00", num(7), truth(1), owner(3))
	list := []impl.Value{
		{}, num(-1), num(1000001), num(math.MaxInt), num(math.MinInt), truth(-1), truth(2), owner(-1), owner(4), owner(impl.NumberTop),
		val("S00"), val("S00", num(7)), val("S00", num(7), truth(1)), val("S00", num(7), truth(1), owner(3), num(0)),
		val("S00", num(7), truth(1), num(3)), val("S00", truth(1), num(7), owner(3)), val("S00", num(7), owner(1), owner(3)),
		val("S00", num(7), truth(1), owner(4)), val("S00", num(1000001), truth(1), owner(3)), val("S00", num(7), truth(2), owner(3)),
		val("S00", num(7), truth(1), impl.Value{}), val("S01", val("S02")), val("S01", val("S01")), val("S01", num(7)), val("S01", first, first),
		val("S02", num(0)), val("S02", val("S02")), val("S10", impl.Value{}), val("S11", num(7), first), val("S11", first, val("S10")),
		val("S01", val("S00", num(7), truth(1))), val("S12", val("S10"), val("S11", first, truth(0)), val("S10")),
		val("S03"), val("S20"), val("S30"), val("S0"), val("S"), val("S000"), val("s02"), val("S02 "), val(" S02"), val("x"), val("N"), val("nn"), val("\xff"),
		{Type: "&n"}, {Type: "!n"}, {Type: "&n", Path: []int{0, 0, 0}}, {Type: "!S02", Path: []int{0, 0, 0}}, {Type: "&S02"}, {Type: "!S00", Parts: first.Parts}, {Type: "&"}, {Type: "!"},
		{Type: "n", N: 7, Path: []int{0}}, {Type: "n", Path: []int{0, 0, 0}}, {Type: "b", Path: []int{0}}, {Type: "o", Path: []int{1, 2}}, {Type: "S02", Path: []int{0}}, {Type: "S00", Parts: first.Parts, Path: []int{0}},
		{Type: "n", N: 7, Parts: []impl.Value{num(7)}}, {Type: "b", Parts: []impl.Value{{}}}, {Type: "o", Parts: []impl.Value{owner(0)}},
		{Type: "S02", N: 1}, {Type: "S02", N: -1}, {Type: "S00", N: 7, Parts: first.Parts},
	}
	for at := range 3 { // what a part does not need makes the whole none
		for _, spoil := range []func(*impl.Value){
			func(v *impl.Value) { v.Path = []int{0} },
			func(v *impl.Value) { v.Parts = []impl.Value{num(0)} },
			func(v *impl.Value) { v.N = -1 },
			func(v *impl.Value) { v.Type = "&" + v.Type },
		} {
			bad := val("S00", num(7), truth(1), owner(3))
			spoil(&bad.Parts[at])
			list = append(list, bad, val("S01", bad))
		}
	}
	return list
}

// okWanted tells by the document's words whether a value is one of good kinds.
func okWanted(kinds [][]impl.Record, v impl.Value) bool {
	if len(v.Path) != 0 || plainWanted(kinds, v.Type, len(kinds), 0) == -1 {
		return false
	}
	if top, ok := map[string]int{"n": 1000000, "b": 1, "o": 3}[v.Type]; ok {
		return v.N >= 0 && v.N <= top && len(v.Parts) == 0
	}
	fields := kinds[v.Type[1]-'0'][v.Type[2]-'0'].Fields
	if v.N != 0 || len(v.Parts) != len(fields) {
		return false
	}
	for i, part := range v.Parts {
		if part.Type != fields[i] || !okWanted(kinds, part) {
			return false
		}
	}
	return true
}

// textWanted tells the text of a good value.
func textWanted(v impl.Value) string {
	switch v.Type {
	case "n":
		return strconv.Itoa(v.N)
	case "b":
		return []string{"-", "+"}[v.N]
	case "o":
		return "@" + strconv.Itoa(v.N)
	}
	var parts []string
	for _, part := range v.Parts {
		parts = append(parts, textWanted(part))
	}
	return v.Type + "(" + strings.Join(parts, " ") + ")"
}

// eachOf calls a function with a value and all its parts, at any depth.
func eachOf(v impl.Value, do func(impl.Value)) {
	do(v)
	for _, part := range v.Parts {
		eachOf(part, do)
	}
}

// sameValue reports whether two values are the same; a nil slice is as an empty one.
func sameValue(a impl.Value, b impl.Value) bool {
	if a.Type != b.Type || a.N != b.N || len(a.Parts) != len(b.Parts) || len(a.Path) != 0 || len(b.Path) != 0 {
		return false
	}
	for i := range a.Parts {
		if !sameValue(a.Parts[i], b.Parts[i]) {
			return false
		}
	}
	return true
}

// isNothing reports whether a value is the zero value.
func isNothing(v impl.Value) bool {
	return sameValue(v, impl.Value{})
}

// someValue returns a value of a type of good kinds, by chance, its numbers often at their limits.
func someValue(r *rand.Rand, kinds [][]impl.Record, t string) impl.Value {
	switch t {
	case "n":
		return num([]int{0, 1, 9, 10, 999999, 1000000, r.Intn(1000001)}[r.Intn(7)])
	case "b":
		return truth(r.Intn(2))
	case "o":
		return owner(r.Intn(4))
	}
	v := impl.Value{Type: t}
	for _, field := range kinds[t[1]-'0'][t[2]-'0'].Fields {
		v.Parts = append(v.Parts, someValue(r, kinds, field))
	}
	return v
}

// spoilt changes one thing of a value, at some depth.
func spoilt(r *rand.Rand, v impl.Value) impl.Value {
	if len(v.Parts) > 0 && r.Intn(3) > 0 {
		at := r.Intn(len(v.Parts))
		v.Parts[at] = spoilt(r, v.Parts[at])
		return v
	}
	switch r.Intn(6) {
	case 0:
		v.Path = []int{0}
	case 1:
		v.N = []int{-1, 0, 1, 2, 3, 4, 1000001}[r.Intn(7)]
	case 2:
		v.Type = typesSome()[r.Intn(150)]
	case 3:
		v.Parts = append(v.Parts, num(0))
	case 4:
		v.Parts = v.Parts[:len(v.Parts)/2]
	case 5:
		v.Type, v.Parts = []string{"n", "b", "o", "S00", "S01"}[r.Intn(5)], nil
	}
	return v
}

// withValues are kinds and values, of which some are of these kinds.
type withValues struct {
	kinds  [][]impl.Record
	values []impl.Value
}

// valuesMany are kinds with many values: good ones, and such with one thing changed.
func valuesMany() []withValues {
	some := withValues{kinds: kindsOfValues()}
	for _, w := range valuesWritten() {
		some.values = append(some.values, w.v)
	}
	list := []withValues{some, {kindsOfValues(), valuesNone()}, {kindsDeep(), []impl.Value{someValue(rand.New(rand.NewSource(3)), kindsDeep(), "S22")}}}
	r := rand.New(rand.NewSource(2))
	for _, kinds := range kindsMany()[:1500] {
		one := withValues{kinds: kinds, values: []impl.Value{num(5), truth(1), owner(2), val("S00"), {}}}
		if m, _ := badWanted(kinds); m == -1 {
			for m := range kinds {
				for i := range kinds[m] {
					t := "S" + strconv.Itoa(m) + strconv.Itoa(i)
					one.values = append(one.values, someValue(r, kinds, t), spoilt(r, someValue(r, kinds, t)), spoilt(r, someValue(r, kinds, t)))
				}
			}
		}
		list = append(list, one)
	}
	return list
}

// textsNone are texts of no value of kindsOfValues.
func textsNone() []string {
	return []string{"", " ", "00", "01", "007", "0000", "1000001", "9999999", "10000000", "01000000", "18446744073709551616", "18446744073709551623", strings.Repeat("9", 5000), strings.Repeat("0", 5000),
		"-0", "-1", "+1", "+7", "--", "@", "@-1", "@00", "@01", "@4", "@10", "@n", "n", "b", "o", "true", "1.0", "1e3", "0x1", "٣", "&n", "S", "S0", "S00", "S00(", "S02(", "S02)", "S02( )", "S02()()", "S02() ", " S02()", "s02()", "S2()", "S020()", "S03()", "S20()", "S30()", "S0a()", "S 0()",
		"S01(S01(S00(7 + @3)))", "S01(7)", "S01()", "S00()", "S00(7 +)", "S00(7 + @3 1)", "S00(7  + @3)", "S00( 7 + @3)", "S00(7 + @3 )", "S00(7,+,@3)", "S00(07 + @3)", "S00(7 1 3)", "S00(+ 7 @3)", "S00(7 + @4)", "S00(1000001 + @3)", "S00(7\t+ @3)", "S00(7 + @3", "S00 7 + @3)", "(7 + @3)", "S00(7+@3)", "S00[7 + @3]", "S11(S00(7 + @3)20)"}
}

// textsSome are texts of no value, and such near those of values of kindsOfValues: each with a byte less, more, or another one.
func textsSome() []string {
	list := textsNone()
	for _, w := range valuesWritten() {
		for i := range len(w.text) + 1 {
			for _, b := range "\x00 ()-+@019S&n\xff" {
				list = append(list, w.text[:i]+string(b)+w.text[i:])
				if i < len(w.text) {
					list = append(list, w.text[:i]+string(b)+w.text[i+1:])
				}
			}
			list = append(list, w.text[:i])
			if i < len(w.text) {
				list = append(list, w.text[:i]+w.text[i+1:], w.text[i:])
			}
		}
	}
	return list
}

func TestValueConstants(t *testing.T) {
	if impl.NumberTop != 1000000 || impl.OwnersMost != 4 {
		t.Errorf("the constants are %d and %d", impl.NumberTop, impl.OwnersMost)
	}
}

func TestValuesWritten(t *testing.T) {
	kinds := kindsOfValues()
	for _, w := range valuesWritten() {
		if !impl.ValueOk(kinds, w.v) {
			t.Errorf("ValueOk of %s does not hold", w.text)
		}
		if got := impl.ValueText(kinds, w.v); got != w.text {
			t.Errorf("ValueText told %q, not %q", got, w.text)
		}
		if got, ok := impl.ValueRead(kinds, w.text); !ok || !sameValue(got, w.v) {
			t.Errorf("ValueRead of %q told %v %v", w.text, got, ok)
		}
		if got := impl.ValueSize(kinds, w.v); got != w.size {
			t.Errorf("ValueSize of %s told %d, not %d", w.text, got, w.size)
		}
	}
}

// TestValuesEmpty holds that empty slices are as nil ones.
func TestValuesEmpty(t *testing.T) {
	kinds := kindsOfValues()
	for _, text := range []string{"7", "+", "@2", "S02()"} {
		v, _ := impl.ValueRead(kinds, text)
		v.Parts, v.Path = []impl.Value{}, []int{}
		if !impl.ValueOk(kinds, v) || impl.ValueText(kinds, v) != text || impl.ValueSize(kinds, v) != 1 {
			t.Errorf("%s with empty slices is none", text)
		}
	}
	for _, empty := range [][][]impl.Record{nil, {}, {{}, nil, {}}} {
		if v, ok := impl.ValueRead(empty, "7"); !ok || v.N != 7 || impl.ValueText(empty, v) != "7" {
			t.Errorf("in kinds without records 7 is none")
		}
	}
}

// checkNone holds that all functions tell that a value is none.
func checkNone(t *testing.T, name string, kinds [][]impl.Record, v impl.Value) {
	if impl.ValueOk(kinds, v) {
		t.Errorf("%s: ValueOk of %v holds", name, v)
	}
	if got := impl.ValueText(kinds, v); got != "" {
		t.Errorf("%s: ValueText of %v told %q", name, v, got)
	}
	if got := impl.ValueSize(kinds, v); got != -1 {
		t.Errorf("%s: ValueSize of %v told %d", name, v, got)
	}
	if got := impl.ValueCount(kinds, v, "S00"); got != -1 {
		t.Errorf("%s: ValueCount of %v told %d", name, v, got)
	}
}

func TestValuesNone(t *testing.T) {
	for _, v := range valuesNone() {
		checkNone(t, "none", kindsOfValues(), v)
	}
}

// TestValuesOfNoKinds holds that there are no values, not even numbers, where the kinds are none.
func TestValuesOfNoKinds(t *testing.T) {
	for _, c := range kindsFaulty() {
		for _, v := range []impl.Value{num(7), truth(0), owner(3), val("S00"), val("S00", num(1)), {}} {
			checkNone(t, c.name, c.kinds, v)
		}
		for _, text := range []string{"7", "+", "@2", "S00()", "S00(1)", ""} {
			if v, ok := impl.ValueRead(c.kinds, text); ok || !isNothing(v) {
				t.Errorf("%s: ValueRead of %q told %v %v", c.name, text, v, ok)
			}
		}
	}
}

// TestValuesMany holds all functions of values against the document's words.
func TestValuesMany(t *testing.T) {
	good, none := 0, 0
	for _, c := range valuesMany() {
		bad, _ := badWanted(c.kinds)
		for _, v := range c.values {
			if bad != -1 || !okWanted(c.kinds, v) {
				none++
				checkNone(t, "many", c.kinds, v)
				continue
			}
			good++
			size := 0
			eachOf(v, func(impl.Value) { size++ })
			if text := impl.ValueText(c.kinds, v); !impl.ValueOk(c.kinds, v) || text != textWanted(v) || impl.ValueSize(c.kinds, v) != size {
				t.Fatalf("in %v, ValueText of %v told %q, and ValueSize %d", c.kinds, v, text, impl.ValueSize(c.kinds, v))
			}
		}
	}
	if good < 1000 || none < 1000 {
		t.Errorf("%d values are good, and %d none", good, none)
	}
}

func TestValueReadNone(t *testing.T) {
	list := textsNone()
	for _, w := range valuesWritten() {
		list = append(list, w.text+" ", " "+w.text, w.text+"\n", w.text+"\x00", w.text+")", "("+w.text+")", w.text+" "+w.text)
	}
	for _, text := range list {
		if v, ok := impl.ValueRead(kindsOfValues(), text); ok || !isNothing(v) {
			t.Errorf("ValueRead of %q told %v %v", text, v, ok)
		}
	}
}

func TestValueCount(t *testing.T) {
	kinds, list := kindsOfValues(), valuesWritten()
	for _, c := range []struct {
		v    impl.Value
		kind string
		want int
	}{
		{num(7), "S00", 0}, {truth(1), "S12", 0}, {owner(3), "S02", 0},
		{val("S02"), "S02", 1}, {val("S02"), "S00", 0}, {val("S00", num(7), truth(1), owner(3)), "S00", 1},
		{list[len(list)-1].v, "S10", 2}, {list[len(list)-1].v, "S00", 1}, {list[len(list)-1].v, "S11", 1}, {list[len(list)-1].v, "S12", 1}, {list[len(list)-1].v, "S01", 0},
		{num(7), "n", -1}, {truth(1), "b", -1}, {owner(1), "o", -1}, {num(7), "", -1}, {num(7), "x", -1}, {val("S02"), "", -1}, {val("S02"), "S", -1}, {val("S02"), "S03", -1}, {val("S02"), "S20", -1}, {val("S02"), "S30", -1}, {val("S02"), "&S02", -1}, {val("S02"), "!S02", -1}, {val("S02"), "S02 ", -1}, {val("S02"), "\xff", -1},
		{impl.Value{}, "S02", -1}, {impl.Value{}, "", -1}, {num(-1), "S02", -1}, {val("S02", num(1)), "S02", -1}, {impl.Value{Type: "&S02"}, "S02", -1}, {impl.Value{Type: "S02", Path: []int{0}}, "S02", -1},
	} {
		if got := impl.ValueCount(kinds, c.v, c.kind); got != c.want {
			t.Errorf("ValueCount of %v and %q told %d, not %d", c.v, c.kind, got, c.want)
		}
	}
}

// TestValuesDeep holds that values as deep and as large as kinds allow are good.
func TestValuesDeep(t *testing.T) {
	kinds := kindsDeep()
	v := someValue(rand.New(rand.NewSource(4)), kinds, "S22")
	if got := impl.ValueSize(kinds, v); got != 29524 {
		t.Errorf("ValueSize told %d", got)
	}
	if got := impl.ValueCount(kinds, v, "S00"); got != 6561 {
		t.Errorf("ValueCount told %d", got)
	}
	text := impl.ValueText(kinds, v)
	if got, ok := impl.ValueRead(kinds, text); !ok || !sameValue(got, v) {
		t.Errorf("a text of %d bytes is not read", len(text))
	}
}

// TestValuesEnd holds that values that have themselves as parts, and texts without end, are none.
func TestValuesEnd(t *testing.T) {
	kinds := [][]impl.Record{{rec(4, "n"), rec(4, "S00", "S00")}}
	for _, kind := range []string{"S00", "S01", "n", "x"} {
		parts := make([]impl.Value, 2)
		parts[0], parts[1] = val(kind, parts...), val(kind, parts...)
		checkNone(t, "round", kinds, parts[0])
		checkNone(t, "round", kinds, val("S01", parts...))
		checkNone(t, "round", kinds, impl.Value{Type: kind, Parts: parts[:1]})
	}
	for _, piece := range []string{"S00(", "S01(", "S01(S00(", "(", "S", "@", "-", "0", "9", "S01(S00(1) "} {
		if v, ok := impl.ValueRead(kinds, strings.Repeat(piece, 1000000)); ok || !isNothing(v) {
			t.Errorf("ValueRead of many %q told %v", piece, v)
		}
	}
}

// TestValuesApart holds that results share no memory with each other, and that arguments are not changed.
func TestValuesApart(t *testing.T) {
	kinds, text := kindsOfValues(), "S12(S10() S11(S00(7 + @3) 0) S10())"
	a, _ := impl.ValueRead(kinds, text)
	b, _ := impl.ValueRead(kinds, text)
	eachOf(a, func(v impl.Value) {
		for i := range v.Parts {
			v.Parts[i].N += 5
		}
		_ = append(v.Parts, num(1), num(2), num(3))
	})
	if got := impl.ValueText(kinds, b); got != text {
		t.Errorf("behind a change of another value the text is %q", got)
	}
	_ = append(b.Parts[1].Parts[0].Parts, num(9), num(9), num(9))
	_ = append(b.Parts[1].Parts, num(9), num(9), num(9))
	if got := impl.ValueText(kinds, b); got != text {
		t.Errorf("behind one more part the text is %q", got)
	}
	if !reflect.DeepEqual(kinds, kindsOfValues()) {
		t.Error("kinds were changed")
	}
	same := valuesMany()[:60]
	for i, c := range valuesMany()[:60] {
		for _, v := range c.values {
			impl.ValueOk(c.kinds, v)
			impl.ValueText(c.kinds, v)
			impl.ValueSize(c.kinds, v)
			impl.ValueCount(c.kinds, v, "S00")
		}
		if !reflect.DeepEqual(c, same[i]) {
			t.Fatalf("%d: arguments were changed", i)
		}
	}
}

func TestPromise7(t *testing.T) {
	good, none := 0, 0
	for _, c := range valuesMany() {
		for _, v := range c.values {
			ok := impl.ValueOk(c.kinds, v)
			if text := impl.ValueText(c.kinds, v); ok != (text != "") {
				t.Fatalf("in %v, ValueOk of %v told %v, and ValueText %q", c.kinds, v, ok, text)
			}
			if ok {
				good++
			} else {
				none++
			}
		}
	}
	if good == 0 || none == 0 {
		t.Errorf("%d values are good, and %d none", good, none)
	}
}

func TestPromise8(t *testing.T) {
	for _, c := range valuesMany() {
		for _, v := range c.values {
			if text := impl.ValueText(c.kinds, v); text != "" {
				if got, ok := impl.ValueRead(c.kinds, text); !ok || !sameValue(got, v) {
					t.Fatalf("in %v, ValueRead of %q told %v %v, not %v", c.kinds, text, got, ok, v)
				}
			}
		}
	}
}

func TestPromise9(t *testing.T) {
	told, texts := 0, textsSome()
	for _, kinds := range append(kindsMany()[:60], kindsOfValues()) {
		for _, text := range texts {
			v, ok := impl.ValueRead(kinds, text)
			if !ok && !isNothing(v) {
				t.Fatalf("in %v, ValueRead of %q told %v", kinds, text, v)
			}
			if !ok {
				continue
			}
			told++
			if !impl.ValueOk(kinds, v) || impl.ValueText(kinds, v) != text {
				t.Fatalf("in %v, ValueRead of %q told %v", kinds, text, v)
			}
		}
	}
	if told < 1000 {
		t.Errorf("only %d texts were read", told)
	}
}

func TestPromise10(t *testing.T) {
	some := 0
	for _, c := range valuesMany() {
		for _, v := range c.values {
			if !impl.ValueOk(c.kinds, v) {
				continue
			}
			for _, kind := range []string{"S00", "S01", "S02", "S10", "S11", "S12", "S20", "S21", "S22"} {
				if !impl.TypeOk(c.kinds, kind) {
					continue
				}
				want := 0
				if v.Type == kind {
					want = 1
				}
				for _, part := range v.Parts {
					want += impl.ValueCount(c.kinds, part, kind)
				}
				if got := impl.ValueCount(c.kinds, v, kind); got != want {
					t.Fatalf("in %v, ValueCount of %v and %s told %d, not %d", c.kinds, v, kind, got, want)
				}
				some += want
			}
		}
	}
	if some == 0 {
		t.Error("nothing was counted")
	}
}

func TestPromise11(t *testing.T) {
	for _, c := range valuesMany() {
		for _, v := range c.values {
			if !impl.ValueOk(c.kinds, v) {
				continue
			}
			want := 1
			for _, part := range v.Parts {
				want += impl.ValueSize(c.kinds, part)
			}
			if got := impl.ValueSize(c.kinds, v); got != want {
				t.Fatalf("in %v, ValueSize of %v told %d, not %d", c.kinds, v, got, want)
			}
		}
	}
}

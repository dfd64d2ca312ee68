package tests

import (
	"math/rand"
	"reflect"
	"slices"
	"strings"
	"testing"

	"loop.example/heirlooms/impl"
)

// A verdict is what is told of a function: the instruction with which it goes wrong first, or -1, the code, and the text of the shape at each instruction.
type verdict struct {
	at, code int
	texts    []string
}

func (v verdict) same(w verdict) bool {
	return v.at == w.at && v.code == w.code && slices.Equal(v.texts, w.texts)
}

// verdictWanted tells by the document's words what is told of a function that is there.
func verdictWanted(shelf []impl.Module, m int, f int) verdict {
	code := shelf[m].Funcs[f].Code
	v := verdict{at: -1, texts: make([]string, len(code))}
	shapes := make([]impl.Shape, len(code))
	taken := make([]bool, len(code))
	shapes[0], _ = firstWanted(shelf, m, f)
	v.texts[0] = shapeTextWanted(shapes[0])
	for {
		at := 0
		for at < len(code) && (v.texts[at] == "" || taken[at]) {
			at++
		}
		if at == len(code) {
			return v
		}
		taken[at] = true
		behind, bad := stand{shelf, m, f, shapes[at]}.stepWanted(code[at])
		if bad != 0 {
			v.at, v.code = at, bad
			return v
		}
		for _, to := range goesTo(code[at], at) {
			switch {
			case to >= len(code):
				v.at, v.code = at, 9
				return v
			case v.texts[to] != "" && v.texts[to] != shapeTextWanted(behind):
				v.at, v.code = at, 8
				return v
			}
			shapes[to], v.texts[to] = behind, shapeTextWanted(behind)
		}
	}
}

// goesTo are the instructions to which one goes, by the document's words.
func goesTo(i impl.Ins, at int) []int {
	if to, ok := map[string][]int{"jump": {i.A}, "zero": {at + 1, i.A}, "ret": {}, "fail": {}}[i.Op]; ok {
		return to
	}
	return []int{at + 1}
}

// checkVerdict holds what is told of a function that is there against what the document's words tell, and returns it.
func checkVerdict(t *testing.T, shelf []impl.Module, m int, f int) verdict {
	t.Helper()
	want := verdictWanted(shelf, m, f)
	at, code := impl.VerifyFunc(shelf, m, f)
	texts, ok := impl.VerifyShapes(shelf, m, f)
	got := verdict{at, code, texts}
	if !ok || !got.same(want) {
		t.Errorf("of %v of the module %d was told %v %v, not %v", shelf[m].Funcs[f], m, got, ok, want)
	}
	return want
}

// checkNoFunc holds that there is no function.
func checkNoFunc(t *testing.T, shelf []impl.Module, m int, f int) {
	t.Helper()
	if at, code := impl.VerifyFunc(shelf, m, f); at != -1 || code != impl.BadOut {
		t.Errorf("VerifyFunc of %d %d of %v told %d %d", m, f, shelf, at, code)
	}
	if texts, ok := impl.VerifyShapes(shelf, m, f); ok || len(texts) != 0 {
		t.Errorf("VerifyShapes of %d %d of %v told %q %v", m, f, shelf, texts, ok)
	}
}

// codeOfText returns the instructions with texts that `; ` parts.
func codeOfText(text string) []impl.Ins {
	code := []impl.Ins{}
	for _, one := range strings.Split(text, "; ") {
		code = append(code, insOfText(one))
	}
	return code
}

// withCode is the first function with a head (standAt), with instructions.
func withCode(head string, code string) stand {
	at := standAt(head, "|")
	at.shelf[at.m].Funcs[0].Code = codeOfText(code)
	return at
}

// A verdictRow is a function with a head and instructions, and what is told of it; texts are parted as instructions are.
type verdictRow struct {
	head, do string
	at, code int
	texts    string
}

// checkRows holds what is told of functions against rows.
func checkRows(t *testing.T, rows []verdictRow) {
	t.Helper()
	for _, row := range rows {
		at := withCode(row.head, row.do)
		want := verdict{row.at, row.code, strings.Split(row.texts, "; ")}
		got := checkVerdict(t, at.shelf, at.m, 0)
		if !got.same(want) {
			t.Errorf("of %q with %q was told %d %d %q, not %d %d %q", row.do, row.head, got.at, got.code, strings.Join(got.texts, "; "), row.at, row.code, row.texts)
		}
	}
}

// bare is the head of a function with nothing.
const bare = "func 2 : : : "

// TestVerifyGood takes functions that do not go wrong.
func TestVerifyGood(t *testing.T) {
	checkRows(t, []verdictRow{
		{bare, "ret", -1, 0, "|"},
		{bare, "num 7; fail", -1, 0, "|; n |"},
		{"func 2 n S11 : n : : ", "move 1; unpack 1; drop; drop; me; num 2; fail", -1, 0,
			"| n S11; S11 | n -; S01 n o | n -; S01 n | n -; S01 | n -; S01 o | n -; S01 o n | n -"},
		{"func 2 n n : S10 : b : ", "copy 0; copy 1; less; put 2; move 0; copy 2; pack 0; ret", -1, 0,
			"| n n -; n | n n -; n n | n n -; b | n n -; | n n b; n | - n b; n b | - n b; S10 | - n b"},
		{"func 2 &S10 : &n : : ", "move 0; field 0 0; ret", -1, 0, "| &S10.9; &S10.9 | -; &n.9 | -"},
		{"func 2 : : : 0", "me; seew 0; num 1; drop; field 1 0; false; write; ret", -1, 0,
			"|; o |; !S10.6 |; !S10.6 n |; !S10.6 |; !b.6 |; !b.6 b |; |"},
		{"func 0 n : n : : ", "move 0; call 1 0; ret", -1, 0, "| n; n | -; n | -"},
		{"0: func 0 : o o o : : ", "call 0 2; call 0 3; drop; drop; drop; call 0 0; ret", -1, 0, "|; |; o o o |; o o |; o |; |; o o o |"},
		{"2: func 2 &n : &n : : ", "move 0; num 3; pack 0; drop; ret", -1, 0, "| &n.9; &n.9 | -; &n.9 n | -; &n.9 S20 | -; &n.9 | -"},
	})
}

// TestVerifyItself takes instructions that go to themselves, or with both ways to the same one.
func TestVerifyItself(t *testing.T) {
	checkRows(t, []verdictRow{
		{bare, "jump 0", -1, 0, "|"},
		{bare, "jump 0; add", -1, 0, "|; "},
		{"func 2 n !S10 : n : S12 : ", "jump 0; ret", -1, 0, "| n !S10.9 -; "},
		{bare, "num 1; jump 1; drop", -1, 0, "|; n |; "},
		{bare, "pack 2; me; jump 2", -1, 0, "|; S12 |; S12 o |"},
		{bare, "zero 0", 0, impl.BadStack, "|"},
		{bare, "true; zero 1; ret", 1, impl.BadJoin, "|; b |; |"},
		{bare, "true; true; zero 2; add; ret", 2, impl.BadJoin, "|; b |; b b |; b |; "},
		{bare, "true; zero 1", 1, impl.BadOut, "|; b |"},
		{bare, "true; zero 2; ret", -1, 0, "|; b |; |"},
		{bare, "num 3; true; zero 3; fail", -1, 0, "|; n |; n b |; n |"},
		{bare, "true; zero 2", 1, impl.BadOut, "|; b |"},
	})
}

// TestVerifyBack takes ways back to an earlier instruction, with the same shape, and with others that differ in one thing alone.
func TestVerifyBack(t *testing.T) {
	checkRows(t, []verdictRow{
		{bare, "num 1; drop; jump 0", -1, 0, "|; n |; |"},
		{bare, "num 1; num 2; add; jump 1", -1, 0, "|; n |; n n |; n |"},
		{bare, "true; zero 4; true; zero 0; jump 0", -1, 0, "|; b |; |; b |; |"},
		{"func 2 n : : : ", "lend 0; read; put 0; jump 0", -1, 0, "| n; &n.0 | n; n | n; | n"},
		{"func 2 S11 : : S11 : ", "move 0; put 1; move 1; put 0; jump 0", -1, 0, "| S11 -; S11 | - -; | - S11; S11 | - -; | S11 -"},
		{"func 2 &n n : : : ", "copy 0; put 0; jump 0", -1, 0, "| &n.9 n; &n.9 | &n.9 n; | &n.9 n"},
		{bare, "num 1; jump 0", 1, impl.BadJoin, "|; n |"},
		{bare, "num 1; drop; true; zero 1; ret", 3, impl.BadJoin, "|; n |; |; b |; |"},
		{bare, "num 1; drop; true; jump 1", 3, impl.BadJoin, "|; n |; |; b |"},
		{bare, "num 1; me; drop; me; jump 1", 4, impl.BadJoin, "|; n |; n o |; n |; n o |"},
		{"func 2 n : : : ", "move 0; drop; jump 0", 2, impl.BadJoin, "| n; n | -; | -"},
		{"func 2 : : n : ", "num 1; put 0; jump 0", 2, impl.BadJoin, "| -; n | -; | n"},
		{"func 2 &n n : : : ", "lend 1; put 0; jump 0", 2, impl.BadJoin, "| &n.9 n; &n.1 | &n.9 n; | &n.1 n"},
		{"func 2 &n n n : : : ", "lend 1; drop; lend 2; jump 1", 3, impl.BadJoin, "| &n.9 n n; &n.1 | &n.9 n n; | &n.9 n n; &n.2 | &n.9 n n"},
		{"func 2 !n n : : : ", "move 0; freeze; drop; num 1; drop; jump 0", 5, impl.BadJoin, "| !n.9 n; !n.9 | - n; &n.9 | - n; | - n; n | - n; | - n"},
	})
}

// TestVerifyJoin takes ways that meet further on.
func TestVerifyJoin(t *testing.T) {
	checkRows(t, []verdictRow{
		{bare, "true; zero 4; num 1; jump 5; num 2; fail", -1, 0, "|; b |; |; n |; |; n |"},
		{bare, "true; zero 4; num 1; jump 5; true; fail", 4, impl.BadJoin, "|; b |; |; n |; |; n |"},
		{bare, "true; zero 5; num 1; true; zero 39; ret", 4, impl.BadJoin, "|; b |; |; n |; n b |; |"},
		{bare, "true; zero 3; num 1; ret", 2, impl.BadJoin, "|; b |; |; |"},
		{"func 2 n n : n : : ", "true; zero 4; lend 0; jump 5; lend 1; read; ret", 4, impl.BadJoin, "| n n; b | n n; | n n; &n.0 | n n; | n n; &n.0 | n n; "},
		{"func 2 n n : n : : ", "true; zero 5; lend 0; read; jump 7; lend 1; read; ret", -1, 0,
			"| n n; b | n n; | n n; &n.0 | n n; n | n n; | n n; &n.1 | n n; n | n n"},
	})
}

// TestVerifyOut takes code whose last instruction goes on, and those that go further than it.
func TestVerifyOut(t *testing.T) {
	checkRows(t, []verdictRow{
		{bare, "num 1", 0, impl.BadOut, "|"},
		{bare, "num 1; drop", 1, impl.BadOut, "|; n |"},
		{bare, "call 1 0", 0, impl.BadOut, "|"},
		{bare, "jump 1", 0, impl.BadOut, "|"},
		{bare, "jump 39; ret", 0, impl.BadOut, "|; "},
		{bare, "num 1; jump 2", 1, impl.BadOut, "|; n |"},
		{bare, "true; zero 0", 1, impl.BadOut, "|; b |"},
		{bare, "num 1; true; zero 0", 2, impl.BadOut, "|; n |; n b |"},
		{bare, "true; zero 3; ret", 1, impl.BadOut, "|; b |; |"},
		{bare, "true; zero 39; ret", 1, impl.BadOut, "|; b |; |"},
		{bare, "true; zero 3; add", 1, impl.BadOut, "|; b |; |"},
		{bare, "jump 2; me; num 1", 2, impl.BadOut, "|; ; |"},
		{bare, "drop", 0, impl.BadStack, "|"},
	})
	long := withCode(bare, strings.Repeat("jump 39; ", 39)+"ret")
	if v := checkVerdict(t, long.shelf, 1, 0); v.code != impl.BadNone || v.texts[39] != "|" || v.texts[38] != "" {
		t.Errorf("of a jump to the last of all instructions was told %v", v)
	}
}

// TestVerifyNone takes instructions to which none goes, which have no shape and can be whatever they are.
func TestVerifyNone(t *testing.T) {
	checkRows(t, []verdictRow{
		{bare, "ret; add", -1, 0, "|; "},
		{bare, "ret; jump 39; zero 39; num 1", -1, 0, "|; ; ; "},
		{bare, "jump 2; add; ret", -1, 0, "|; ; |"},
		{bare, "num 1; fail; take 2; call 0 2", -1, 0, "|; n |; ; "},
		{bare, "jump 3; num 1; jump 3; ret", -1, 0, "|; ; ; |"},
		{"func 2 S11 : : : ", "jump 1; num 5; fail; ret", -1, 0, "| S11; | S11; n | S11; "},
		{bare, "add; ret", 0, impl.BadStack, "|; "},
	})
}

// TestVerifyLeast takes code where several instructions wait, and more than one of them goes wrong.
func TestVerifyLeast(t *testing.T) {
	checkRows(t, []verdictRow{
		{bare, "true; zero 4; add; ret; copy 0; ret", 2, impl.BadStack, "|; b |; |; ; |; "},
		{bare, "jump 3; copy 0; ret; true; zero 1; add", 1, impl.BadPlace, "|; |; ; |; b |; |"},
		{bare, "true; zero 4; num 1; add; copy 0", 3, impl.BadStack, "|; b |; |; n |; |"},
		{bare, "jump 2; add; true; zero 5; jump 1; copy 0", 1, impl.BadStack, "|; |; |; b |; |; |"},
		{bare, "true; zero 7; true; zero 6; true; zero 8; add; copy 0; not", 6, impl.BadStack, "|; b |; |; b |; |; b |; |; |; |"},
		{bare, "jump 4; add; not; copy 0; true; zero 3; true; zero 2; true; zero 1; ret", 3, impl.BadPlace, "|; ; ; |; |; b |; |; ; ; ; "},
		{bare, "jump 4; add; not; copy 0; true; zero 6; true; zero 2; true; zero 1; ret", 2, impl.BadStack, "|; ; |; ; |; b |; |; b |; |; ; "},
	})
}

// TestVerifyNext takes zero where one way goes wrong, or both do: the next instruction is looked at first.
func TestVerifyNext(t *testing.T) {
	checkRows(t, []verdictRow{
		{bare, "true; zero 5; num 1; true; zero 6; ret", 4, impl.BadJoin, "|; b |; |; n |; n b |; |"},
		{bare, "num 1; true; zero 0", 2, impl.BadOut, "|; n |; n b |"},
		{bare, "num 1; true; zero 0; add", 2, impl.BadJoin, "|; n |; n b |; n |"},
		{bare, "num 1; true; zero 4; add", 2, impl.BadOut, "|; n |; n b |; n |"},
	})
}

// TestVerifyCodes takes functions that go wrong by each code of a step.
func TestVerifyCodes(t *testing.T) {
	checkRows(t, []verdictRow{
		{bare, "true; not; add; ret", 2, impl.BadStack, "|; b |; b |; "},
		{bare, strings.Repeat("me; ", 13) + "ret", 12, impl.BadStack, "|; o |; o o |; o o o |; o o o o |; o o o o o |; o o o o o o |; o o o o o o o |; " +
			"o o o o o o o o |; o o o o o o o o o |; o o o o o o o o o o |; o o o o o o o o o o o |; o o o o o o o o o o o o |; "},
		{"func 2 : n : : ", "ret", 0, impl.BadStack, "|"},
		{bare, "num 1; ret", 1, impl.BadStack, "|; n |"},
		{"func 2 n : : n : ", "copy 1; ret", 0, impl.BadPlace, "| n -; "},
		{"func 2 n : : n : ", "move 0; put 1; move 0; ret", 2, impl.BadPlace, "| n -; n | - -; | - n; "},
		{bare, "num 1; put 0; ret", 1, impl.BadPlace, "|; n |; "},
		{"func 2 S11 : : : ", "ret", 0, impl.BadAble, "| S11"},
		{bare, "pack 2; drop; ret", 1, impl.BadAble, "|; S12 |; "},
		{"func 2 !S10 : : : ", "copy 0; drop; ret", 0, impl.BadAble, "| !S10.9; ; "},
		{"func 2 n : : : ", "lendw 0; copy 0; ret", 1, impl.BadLent, "| n; !n.0 | n; "},
		{"func 2 n : : &n : ", "lend 0; put 1; move 0; ret", 2, impl.BadLent, "| n -; &n.0 | n -; | n &n.0; "},
		{"func 2 : : : 0", "me; see 0; me; take 0; ret", 3, impl.BadLent, "|; o |; &S10.6 |; &S10.6 o |; "},
		{"2: func 2 : : : ", "pack 2; ret", 0, impl.BadOwn, "|; "},
		{"func 2 : : : 1", "me; has 0; drop; me; take 0; ret", 4, impl.BadOwn, "|; o |; b |; |; o |; "},
		{bare, "call 0 2; ret", 0, impl.BadCall, "|; "},
		{"func 2 : : : 0", "call 1 3; ret", 0, impl.BadCall, "|; "},
		{"func 2 n : &n : : ", "lend 0; ret", 1, impl.BadEnd, "| n; &n.0 | n"},
		{"func 2 &n !S10 : &n : n : ", "num 4; put 2; true; zero 6; copy 0; ret; lend 2; ret", 7, impl.BadEnd,
			"| &n.9 !S10.9 -; n | &n.9 !S10.9 -; | &n.9 !S10.9 n; b | &n.9 !S10.9 n; | &n.9 !S10.9 n; &n.9 | &n.9 !S10.9 n; | &n.9 !S10.9 n; &n.2 | &n.9 !S10.9 n"},
	})
}

// TestVerifyBehind takes faults behind which other instructions have their shapes already, or have none yet.
func TestVerifyBehind(t *testing.T) {
	checkRows(t, []verdictRow{
		{bare, "true; zero 3; add; ret", 2, impl.BadStack, "|; b |; |; |"},
		{bare, "true; zero 4; add; me; num 1; ret", 2, impl.BadStack, "|; b |; |; ; |; "},
		{"func 2 n : : : ", "jump 2; ret; lend 0; true; zero 6; jump 1; move 0", 1, impl.BadStack, "| n; &n.0 | n; | n; &n.0 | n; &n.0 b | n; &n.0 | n; &n.0 | n"},
	})
}

// someEnd puts instructions behind code, at a shape, with which the function often ends well, by chance.
func (at stand) someEnd(r *rand.Rand, odd int, code []impl.Ins, texts []string) []impl.Ins {
	back := slices.Index(texts, shapeTextWanted(at.s))
	_, bad := at.stepWanted(ins("ret"))
	switch {
	case bad == 0 || bad == 7 || r.Intn(odd/8) == 0:
		return append(code, ins("ret"))
	case back != -1 && r.Intn(2) == 0:
		return append(code, ins("jump", back))
	case r.Intn(odd/8) == 0:
		return append(code, ins("jump", r.Intn(len(code)+2)))
	case r.Intn(odd/8) == 0 && len(code) > 0:
		return code
	}
	return append(code, ins("num", 1), ins("fail"))
}

// someSide puts a zero behind code that is told here, or goes back to an instruction with the same shape, or around what leaves nothing, or to none, by chance.
func (at stand) someSide(r *rand.Rand, odd int, code []impl.Ins, texts []string) []impl.Ins {
	back := slices.Index(texts, shapeTextWanted(at.s))
	code = append(code, ins(pick(r, []string{"true", "false"})))
	here := len(code)
	switch r.Intn(6) {
	case 0:
		return append(code, ins("zero", here+1))
	case 1:
		return append(code, ins("zero", here+3), ins("me"), ins("drop"))
	case 2:
		return append(code, ins("zero", here+2), ins("jump", here+3), ins("jump", here+3))
	case 3:
		return append(code, ins("zero", here+3), ins("num", 2), ins("fail"))
	}
	if r.Intn(odd/8) == 0 {
		back = r.Intn(40)
	} else if back == -1 {
		back = here + 1
	}
	return append(code, ins("zero", back))
}

// someCode returns code for a function that often is good, by chance: mostly instructions that can be, one behind the other.
func (at stand) someCode(r *rand.Rand, odd int) []impl.Ins {
	at.s, _ = firstWanted(at.shelf, at.m, at.f)
	code, texts := []impl.Ins{}, []string{}
	seldom := []int{1, 1, 1, 25, 50, 3, 15, 1}
	for range r.Intn(10 * (1 + r.Intn(4))) {
		texts = append(texts, make([]string, len(code)-len(texts))...)
		if len(code) < 30 && len(at.s.Stack) < 10 && r.Intn(16) == 0 {
			code = at.someSide(r, odd, code, texts)
			continue
		}
		w := pick(r, wordsOfTable())
		i := impl.Ins{Op: w.op, A: r.Intn(min(w.a, 5) + 1), B: r.Intn(w.b + 1)}
		if i.Op == "call" {
			i.A = r.Intn(at.m + 1)
		} else if w.a == 5 || r.Intn(4) == 0 {
			i = ins(pick(r, []string{"copy", "move", "put", "lend", "lendw"}), r.Intn(min(6, len(at.s.Places)+1)))
		}
		s, bad := at.stepWanted(i)
		switch i.Op {
		case "jump":
			i.A = len(code) + 1
		case "zero", "ret", "fail":
			continue
		}
		if bad != 0 && r.Intn(odd/seldom[bad]) > 0 || len(code) > 34 {
			continue
		}
		texts = append(texts, shapeTextWanted(at.s))
		code = append(code, i)
		if bad == 0 {
			at.s = s
		}
	}
	texts = append(texts, make([]string, len(code)-len(texts))...)
	return at.someEnd(r, odd, code, texts)
}

// shelvesWithCode are shelves with functions that often are good, by chance, always the same ones; the greater a number is, the more often.
func shelvesWithCode(seed int64, many int, odd int) [][]impl.Module {
	r := rand.New(rand.NewSource(seed))
	shelves := shelvesSome(many)
	for k, shelf := range shelves {
		if k%3 == 0 {
			shelf = shelfSteps(1, pick(r, []string{stepsHead, "func 2 &n n : &n : n : ", "func 0 n : &n : : ", "func 1 !S10 : !b : S10 : 0"}))
			shelf[0].Friends = someAscending(r, 1, 3)
			shelves[k] = shelf
		}
		for m := range shelf {
			for f := range shelf[m].Funcs {
				shelf[m].Funcs[f].Code = stand{shelf: shelf, m: m, f: f}.someCode(r, odd)
			}
		}
	}
	return shelves
}

// TestVerifyMany takes functions by chance, which are good or go wrong by each code.
func TestVerifyMany(t *testing.T) {
	codes := map[int]int{}
	longest, behind := 0, 0
	for _, shelf := range shelvesWithCode(71, 700, 90) {
		for m := range shelf {
			for f := range shelf[m].Funcs {
				v := checkVerdict(t, shelf, m, f)
				codes[v.code]++
				if v.code == 0 {
					longest = max(longest, len(v.texts))
				}
				if v.code != 0 && slices.ContainsFunc(v.texts[v.at+1:], func(text string) bool { return text != "" }) {
					behind++
				}
			}
		}
	}
	for code, least := range []int{1000, 100, 40, 40, 40, 40, 30, 3, 40, 100} {
		if codes[code] < least {
			t.Errorf("only %d functions were told the code %d", codes[code], code)
		}
	}
	if longest < 20 || behind < 50 {
		t.Errorf("the longest good function has %d instructions, and %d faults had shapes behind", longest, behind)
	}
}

// TestVerifyIndexes takes modules and functions that are none.
func TestVerifyIndexes(t *testing.T) {
	c := tally{}
	for _, shelf := range [][]impl.Module{nil, {}, {{}}, {{}, {}, {}}, {{}, {Funcs: []impl.Func{small()}}}, shelfGood()} {
		for _, m := range numbersSome() {
			for _, f := range numbersSome() {
				_, there := firstWanted(shelf, m, f)
				c.count(there)
				if there {
					checkVerdict(t, shelf, m, f)
				} else {
					checkNoFunc(t, shelf, m, f)
				}
			}
		}
	}
	c.enough(t, 9, 1000)
}

// spoilsOfShape are changes behind which a good shelf has not the shape, for a reason beside its first function.
func spoilsOfShape() map[string]func(s []impl.Module) []impl.Module {
	return map[string]func(s []impl.Module) []impl.Module{
		"too many modules":       func(s []impl.Module) []impl.Module { return append(s, impl.Module{}) },
		"too many functions":     func(s []impl.Module) []impl.Module { s[2].Funcs = slices.Repeat(s[2].Funcs[:1], 5); return s },
		"too many records":       func(s []impl.Module) []impl.Module { s[2].Records = slices.Repeat([]impl.Record{rec(4)}, 4); return s },
		"a kind that is none":    func(s []impl.Module) []impl.Module { s[2].Records[0].Able = 16; return s },
		"a friend that is none":  func(s []impl.Module) []impl.Module { s[2].Friends = []int{3}; return s },
		"a friend that is early": func(s []impl.Module) []impl.Module { s[1].Friends = []int{0}; return s },
		"a sight that is none":   func(s []impl.Module) []impl.Module { s[2].Funcs[0].Seen = 3; return s },
		"a type that is none":    func(s []impl.Module) []impl.Module { s[2].Funcs[0].Rets = []string{"S22"}; return s },
		"no code":                func(s []impl.Module) []impl.Module { s[2].Funcs[1].Code = nil; return s },
		"an instruction of none": func(s []impl.Module) []impl.Module { s[1].Funcs[0].Code = []impl.Ins{ins("ret", 1)}; return s },
		"a call of a later one": func(s []impl.Module) []impl.Module {
			s[1].Funcs[0].Code = []impl.Ins{ins("ret"), ins("call", 2, 0)}
			return s
		},
		"a record that is taken": func(s []impl.Module) []impl.Module { s[2].Funcs[0].Takes = []int{3}; return s },
	}
}

// shelfVerified is a good shelf, in which the later modules call functions of the first one as friends.
func shelfVerified() []impl.Module {
	shelf := []impl.Module{}
	for _, text := range []string{
		"record 12 n\nfriend 1 2\nfunc 2 : : :\nret\nfunc 1 n : S00 : :\nmove 0\npack 0\nret\nfunc 0 : : :\nret\n",
		"record 15 n\nfriend 2\nfunc 2 : S00 : :\nnum 5\ncall 0 1\nret\nfunc 1 : : :\nnum 1\nfail\n",
		"record 3\nfunc 2 : S00 : :\ncall 1 1\nnum 6\ncall 0 1\nret\nfunc 0 : : :\njump 0\nfunc 0 n : n : :\nmove 0\nret\nfunc 2 : : :\nret\n",
	} {
		module, ok := impl.ModuleRead(text)
		if !ok {
			panic("no module: " + text)
		}
		shelf = append(shelf, module)
	}
	return shelf
}

// checkShelf holds what is told of a shelf against what the document's words tell of it, and reports whether it is good.
func checkShelf(t *testing.T, shelf []impl.Module) bool {
	t.Helper()
	want, bad := faultWanted(shelf)
	got, is := impl.VerifyShelf(shelf)
	if got != want || is != bad || impl.ShelfGood(shelf) == bad {
		t.Errorf("VerifyShelf of %v told %v %v, not %v %v, and ShelfGood %v", shelf, got, is, want, bad, impl.ShelfGood(shelf))
	}
	return !bad
}

// faultWanted tells by the document's words the first fault of a shelf, and whether there is one.
func faultWanted(shelf []impl.Module) (impl.Fault, bool) {
	if !shapeWanted(shelf) {
		return impl.Fault{Code: 9}, true
	}
	for m := range shelf {
		for f := range shelf[m].Funcs {
			if v := verdictWanted(shelf, m, f); v.code != 0 {
				return impl.Fault{M: m, F: f, At: v.at, Code: v.code}, true
			}
		}
	}
	return impl.Fault{}, false
}

// TestShelvesGood takes good shelves, some without modules, and with modules without functions.
func TestShelvesGood(t *testing.T) {
	for k, shelf := range [][]impl.Module{nil, {}, {{}}, {{}, {}, {}}, {{Friends: []int{1}}, {}}, {{}, {Funcs: []impl.Func{small()}}}, {{Records: []impl.Record{rec(4, "n")}}}, shelfVerified()} {
		if !checkShelf(t, shelf) || !impl.ShelfGood(shelf) {
			t.Errorf("the shelf %d is not good", k)
		}
		for many := range len(shelf) + 1 {
			if !impl.ShelfGoodBelow(shelf, many) {
				t.Errorf("of the shelf %d the first %d are not good", k, many)
			}
		}
	}
}

// TestShelvesFault puts a fault into each function of a good shelf, and one into each pair of functions.
func TestShelvesFault(t *testing.T) {
	type place struct{ m, f int }
	places := []place{}
	for m, module := range shelfVerified() {
		for f := range module.Funcs {
			places = append(places, place{m, f})
		}
	}
	for k, a := range places {
		for l, b := range places[:k+1] {
			shelf := shelfVerified()
			shelf[a.m].Funcs[a.f].Code = codeOfText("num 1; drop; add")
			shelf[b.m].Funcs[b.f].Code = codeOfText("num 1; copy 5")
			want := impl.Fault{M: b.m, F: b.f, At: 1, Code: impl.BadPlace}
			if got, bad := impl.VerifyShelf(shelf); got != want || !bad {
				t.Errorf("with the faults %d and %d was told %v %v, not %v", k, l, got, bad, want)
			}
			checkShelf(t, shelf)
		}
		shelf := shelfVerified()
		shelf[a.m].Funcs[a.f].Code = codeOfText("num 1; drop; add")
		want := impl.Fault{M: a.m, F: a.f, At: 2, Code: impl.BadStack}
		if got, bad := impl.VerifyShelf(shelf); got != want || !bad {
			t.Errorf("with the fault %d was told %v %v, not %v", k, got, bad, want)
		}
		for l, b := range places {
			if at, code := impl.VerifyFunc(shelf, b.m, b.f); (code != 0) != (k == l) || (at != -1) != (k == l) {
				t.Errorf("with the fault %d, of the function %d was told %d %d", k, l, at, code)
			}
		}
	}
}

// TestShelvesNoShape takes shelves that have not the shape, some of which have a function that goes wrong, too.
func TestShelvesNoShape(t *testing.T) {
	for name, spoil := range spoilsOfShape() {
		shelf := spoil(shelfVerified())
		if checkShelf(t, shelf) || shapeWanted(shelf) {
			t.Errorf("%s: the shelf is good", name)
		}
		shelf[1].Funcs[1].Code = codeOfText("add; ret")
		if got, bad := impl.VerifyShelf(shelf); got != (impl.Fault{Code: impl.BadOut}) || !bad {
			t.Errorf("%s: VerifyShelf told %v %v", name, got, bad)
		}
		checkNoFunc(t, shelf, 0, 0)
	}
}

// TestShelvesMany takes shelves by chance, some of which have not the shape.
func TestShelvesMany(t *testing.T) {
	r := rand.New(rand.NewSource(72))
	c, shaped := tally{}, tally{}
	for k, shelf := range shelvesWithCode(73, 500, 400) {
		if len(shelf) > 0 && k%4 == 0 {
			spoiltShelf(r, shelf)
		}
		c.count(checkShelf(t, shelf))
		shaped.count(impl.ShelfShape(shelf))
	}
	c.enough(t, 100, 100)
	shaped.enough(t, 200, 40)
}

// firstWantedBelow are the first modules of a shelf without friends that are later ones, by the document's words.
func firstWantedBelow(shelf []impl.Module, many int) []impl.Module {
	below := []impl.Module{}
	for _, module := range shelf[:many] {
		friends := []int{}
		for _, friend := range module.Friends {
			if friend < many {
				friends = append(friends, friend)
			}
		}
		below = append(below, impl.Module{Records: module.Records, Funcs: module.Funcs, Friends: friends})
	}
	return below
}

// TestBelowNumbers takes numbers of modules that are none, and those that are.
func TestBelowNumbers(t *testing.T) {
	c := tally{}
	for _, shelf := range [][]impl.Module{nil, {{}}, {{}, {}}, shelfVerified(), append(shelfVerified(), impl.Module{}, impl.Module{})} {
		for _, many := range numbersSome() {
			want := many >= 0 && many <= min(3, len(shelf))
			c.count(want)
			if impl.ShelfGoodBelow(shelf, many) != want {
				t.Errorf("that the first %d of %d modules are good is told wrongly", many, len(shelf))
			}
		}
	}
	c.enough(t, 12, 50)
}

// TestBelowLater takes shelves whose first modules are good, or not, whatever the later ones are.
func TestBelowLater(t *testing.T) {
	add := func(shelf []impl.Module, m int) { shelf[m].Funcs[1].Code = codeOfText("add; ret") }
	for name, row := range map[string]struct {
		spoil func(s []impl.Module)
		good  string
	}{
		"all are good":                   {func(s []impl.Module) {}, "0123"},
		"a fault in the last one":        {func(s []impl.Module) { add(s, 2) }, "012"},
		"a fault in the middle":          {func(s []impl.Module) { add(s, 1) }, "01"},
		"a fault in the first one":       {func(s []impl.Module) { add(s, 0) }, "0"},
		"a last one without a shape":     {func(s []impl.Module) { s[2].Funcs[0].Seen = 7 }, "012"},
		"a middle one without a shape":   {func(s []impl.Module) { s[1].Records[0].Able = 16 }, "01"},
		"a first one without a shape":    {func(s []impl.Module) { s[0].Records[0].Fields = []string{"S00"} }, "0"},
		"no friend of the first one":     {func(s []impl.Module) { s[0].Friends = nil }, "01"},
		"one friend of the first one":    {func(s []impl.Module) { s[0].Friends = []int{1} }, "012"},
		"another friend of it":           {func(s []impl.Module) { s[0].Friends = []int{2} }, "01"},
		"no friend of the middle one":    {func(s []impl.Module) { s[1].Friends = nil }, "012"},
		"friends that fall":              {func(s []impl.Module) { s[0].Friends = []int{2, 1} }, "012"},
		"a later friend twice":           {func(s []impl.Module) { s[0].Friends = []int{1, 2, 2} }, "012"},
		"an earlier friend twice":        {func(s []impl.Module) { s[0].Friends = []int{1, 1, 2} }, "01"},
		"a friend that is itself":        {func(s []impl.Module) { s[0].Friends = []int{0, 1, 2} }, "0"},
		"a friend that is negative":      {func(s []impl.Module) { s[0].Friends = []int{-1, 1, 2} }, "0"},
		"a friend of the middle, itself": {func(s []impl.Module) { s[1].Friends = []int{1} }, "01"},
		"a friend that is behind all":    {func(s []impl.Module) { s[0].Friends = []int{1, 2, 3} }, "0123"},
		"a call of a later one":          {func(s []impl.Module) { s[0].Funcs[0].Code = codeOfText("ret; call 1 0") }, "0"},
		"a type of a later one":          {func(s []impl.Module) { s[0].Funcs[0].Locals = []string{"S10"} }, "0"},
	} {
		shelf := shelfVerified()
		row.spoil(shelf)
		for many := range 4 {
			want := strings.Contains(row.good, string(rune('0'+many)))
			if _, bad := faultWanted(firstWantedBelow(shelf, many)); bad == want {
				t.Errorf("%s: that the first %d are good should be %v", name, many, !bad)
			}
			if impl.ShelfGoodBelow(shelf, many) != want {
				t.Errorf("%s: that the first %d are good is not told as %v", name, many, want)
			}
		}
	}
}

// TestBelowMany takes shelves by chance, good ones, others, and spoilt ones.
func TestBelowMany(t *testing.T) {
	r := rand.New(rand.NewSource(74))
	c := tally{}
	for k, shelf := range shelvesWithCode(75, 300, 500) {
		if len(shelf) > 0 && k%4 == 0 {
			spoiltShelf(r, shelf)
		}
		for many := range len(shelf) + 1 {
			_, bad := faultWanted(firstWantedBelow(shelf, many))
			c.count(!bad)
			if impl.ShelfGoodBelow(shelf, many) == bad {
				t.Errorf("that the first %d of %v are good is told as %v", many, shelf, bad)
			}
		}
	}
	c.enough(t, 300, 100)
}

// cloneShelf returns a copy of a shelf, in which each list has room behind it that is empty.
func cloneShelf(shelf []impl.Module) []impl.Module {
	copied := make([]impl.Module, 0, len(shelf)+2)
	for _, module := range shelf {
		c := impl.Module{Friends: roomy(module.Friends)}
		for _, record := range module.Records {
			c.Records = append(c.Records, impl.Record{Able: record.Able, Fields: roomy(record.Fields)})
		}
		for _, f := range module.Funcs {
			c.Funcs = append(c.Funcs, impl.Func{Seen: f.Seen, Args: roomy(f.Args), Rets: roomy(f.Rets), Locals: roomy(f.Locals), Takes: roomy(f.Takes), Code: roomy(f.Code)})
		}
		c.Records, c.Funcs = roomy(c.Records), roomy(c.Funcs)
		copied = append(copied, c)
	}
	return copied
}

// roomy returns a copy of a list with room behind it that is empty.
func roomy[T any](list []T) []T {
	return append(make([]T, 0, len(list)+2), list...)
}

// isRoomy reports whether the room behind lists of a shelf is empty.
func isRoomy(shelf []impl.Module) bool {
	for _, module := range shelf {
		for _, list := range []any{module.Friends, module.Records, module.Funcs} {
			v := reflect.ValueOf(list)
			for k := v.Len(); k < v.Cap(); k++ {
				if !v.Slice(0, v.Cap()).Index(k).IsZero() {
					return false
				}
			}
		}
		for _, f := range module.Funcs {
			for _, i := range f.Code[len(f.Code):cap(f.Code)] {
				if i != (impl.Ins{}) {
					return false
				}
			}
		}
	}
	return true
}

func TestVerifyKeepsArguments(t *testing.T) {
	shelves := append(shelvesWithCode(76, 200, 1000), shelfVerified(), shelfGood())
	for _, shelf := range shelves {
		given := cloneShelf(shelf)
		for m := range given {
			impl.VerifyFunc(given, m, 0)
			impl.VerifyShapes(given, m, 0)
			impl.ShelfGoodBelow(given, m)
		}
		impl.VerifyShelf(given)
		impl.ShelfGood(given)
		if !sameShelf(given, shelf) || !isRoomy(given) {
			t.Fatalf("the shelf %v was changed to %v", shelf, given)
		}
	}
}

func TestVerifyApart(t *testing.T) {
	at := withCode("func 2 n : n : : ", "copy 0; ret")
	a, _ := impl.VerifyShapes(at.shelf, at.m, 0)
	b, _ := impl.VerifyShapes(at.shelf, at.m, 0)
	for k := range a {
		a[k] = "x"
	}
	_ = append(a[:1], "y")
	if c, _ := impl.VerifyShapes(at.shelf, at.m, 0); !slices.Equal(b, c) || slices.Contains(b, "x") {
		t.Errorf("a change of texts goes through to %q and %q", b, c)
	}
}

// eachVerified does something with all functions of many shelves, and some indexes that are none; some shelves have not the shape.
func eachVerified(seed int64, do func(shelf []impl.Module, m int, f int)) {
	r := rand.New(rand.NewSource(seed))
	for k, shelf := range shelvesWithCode(seed, 200, 100) {
		if len(shelf) > 0 && k%6 == 0 {
			spoiltShelf(r, shelf)
		}
		for m := range len(shelf) + 1 {
			for f := -1; f <= 4; f++ {
				do(shelf, m, f)
			}
		}
	}
}

func TestPromise30(t *testing.T) {
	c := tally{}
	eachVerified(77, func(shelf []impl.Module, m int, f int) {
		at, code := impl.VerifyFunc(shelf, m, f)
		texts, ok := impl.VerifyShapes(shelf, m, f)
		if _, there := impl.ShapeFirst(shelf, m, f); !there {
			if ok || at != -1 || code != impl.BadOut {
				t.Errorf("of no function was told %d %d %v", at, code, ok)
			}
			return
		}
		c.count(code == impl.BadNone)
		switch {
		case code == impl.BadNone && (at != -1 || texts[0] == ""):
			t.Errorf("of a function without fault was told %d %q", at, texts)
		case code != impl.BadNone && (at < 0 || at >= len(texts) || texts[at] == ""):
			t.Errorf("of a function with the fault %d was told %d %q", code, at, texts)
		}
	})
	c.enough(t, 300, 100)
}

func TestPromise31(t *testing.T) {
	c := tally{}
	eachVerified(78, func(shelf []impl.Module, m int, f int) {
		texts, ok := impl.VerifyShapes(shelf, m, f)
		c.count(ok)
		if !ok {
			return
		}
		first, _ := impl.ShapeFirst(shelf, m, f)
		if len(texts) != len(shelf[m].Funcs[f].Code) || texts[0] != impl.ShapeText(first) {
			t.Errorf("the texts %q are told, where the first shape is %q and there are %d instructions", texts, impl.ShapeText(first), len(shelf[m].Funcs[f].Code))
		}
	})
	c.enough(t, 500, 500)
}

// shelvesPromised are shelves of all sorts: good ones, ones with faults, and ones that have not the shape.
func shelvesPromised(seed int64) [][]impl.Module {
	r := rand.New(rand.NewSource(seed))
	shelves := slices.Concat(shelvesWithCode(seed, 200, 100), shelvesWithCode(seed, 200, 5000), [][]impl.Module{nil, {}, {{}}, shelfVerified(), shelfGood()})
	for k, shelf := range shelves {
		if len(shelf) > 0 && k%8 == 0 {
			spoiltShelf(r, shelf)
		}
	}
	for _, spoil := range spoilsOfShape() {
		shelves = append(shelves, spoil(shelfVerified()))
	}
	return shelves
}

func TestPromise32(t *testing.T) {
	c, shaped := tally{}, tally{}
	for _, shelf := range shelvesPromised(79) {
		fault, bad := impl.VerifyShelf(shelf)
		c.count(!bad)
		if bad == impl.ShelfGood(shelf) {
			t.Errorf("a fault is told as %v, and that the shelf is good as %v", bad, !bad)
		}
		if !bad {
			continue
		}
		shaped.count(impl.ShelfShape(shelf))
		at, code := impl.VerifyFunc(shelf, fault.M, fault.F)
		if impl.ShelfShape(shelf) && (at != fault.At || code != fault.Code || code == impl.BadNone) {
			t.Errorf("of %v VerifyFunc told %d %d", fault, at, code)
		}
	}
	c.enough(t, 100, 100)
	shaped.enough(t, 50, 20)
}

func TestPromise33(t *testing.T) {
	c := tally{}
	for _, shelf := range shelvesPromised(80) {
		good := impl.ShelfGood(shelf)
		c.count(good)
		for m := range shelf {
			for f := range shelf[m].Funcs {
				if at, code := impl.VerifyFunc(shelf, m, f); good && (at != -1 || code != impl.BadNone) {
					t.Errorf("in a good shelf, of the function %d %d was told %d %d", m, f, at, code)
				}
			}
		}
	}
	c.enough(t, 100, 100)
}

func TestPromise34(t *testing.T) {
	c, friends := tally{}, tally{}
	for _, shelf := range shelvesPromised(81) {
		if c.count(impl.ShelfGood(shelf)); !impl.ShelfGood(shelf) {
			continue
		}
		for many := range len(shelf) + 1 {
			friends.count(slices.ContainsFunc(shelf[:many], func(m impl.Module) bool { return slices.ContainsFunc(m.Friends, func(n int) bool { return n >= many }) }))
			if !impl.ShelfGoodBelow(shelf, many) {
				t.Errorf("the shelf %v is good, but not the first %d modules", shelf, many)
			}
		}
	}
	c.enough(t, 100, 100)
	friends.enough(t, 50, 100)
}

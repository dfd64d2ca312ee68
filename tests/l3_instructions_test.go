package tests

import (
	"math"
	"regexp"
	"slices"
	"strconv"
	"strings"
	"testing"

	"loop.example/heirlooms/impl"
)

// wordOfTable is a word of the document's table, how many numbers it needs, and the greatest ones.
type wordOfTable struct {
	op   string
	many int
	a, b int
}

// wordsOfTable are the words of the document's table, in order; nothing changes them.
func wordsOfTable() []wordOfTable { return tableOfWords }

var tableOfWords = []wordOfTable{
	{"num", 1, 1000000, 0},
	{"true", 0, 0, 0}, {"false", 0, 0, 0}, {"me", 0, 0, 0},
	{"add", 0, 0, 0}, {"sub", 0, 0, 0}, {"mul", 0, 0, 0}, {"div", 0, 0, 0}, {"mod", 0, 0, 0}, {"less", 0, 0, 0},
	{"same", 0, 0, 0},
	{"and", 0, 0, 0}, {"or", 0, 0, 0}, {"not", 0, 0, 0},
	{"copy", 1, 5, 0}, {"move", 1, 5, 0},
	{"put", 1, 5, 0},
	{"drop", 0, 0, 0},
	{"pack", 1, 2, 0}, {"unpack", 1, 2, 0},
	{"lend", 1, 5, 0}, {"lendw", 1, 5, 0},
	{"field", 2, 2, 2},
	{"read", 0, 0, 0}, {"peek", 0, 0, 0},
	{"write", 0, 0, 0},
	{"freeze", 0, 0, 0},
	{"keep", 1, 2, 0}, {"take", 1, 2, 0}, {"has", 1, 2, 0},
	{"see", 1, 2, 0}, {"seew", 1, 2, 0},
	{"jump", 1, 39, 0}, {"zero", 1, 39, 0},
	{"call", 2, 2, 3},
	{"ret", 0, 0, 0},
	{"fail", 0, 0, 0},
}

// textOfTable returns the text of an instruction of a word of the table.
func (w wordOfTable) textOfTable(a int, b int) string {
	return strings.Join([]string{w.op, strconv.Itoa(a), strconv.Itoa(b)}[:1+w.many], " ")
}

// insWanted tells by the document's words the text of an instruction; the empty text if it is none.
func insWanted(i impl.Ins) string {
	for _, w := range wordsOfTable() {
		if w.op == i.Op && i.A >= 0 && i.A <= w.a && i.B >= 0 && i.B <= w.b {
			return w.textOfTable(i.A, i.B)
		}
	}
	return ""
}

// insTexts has each text of an instruction, but for those of num, of which it has some.
func insTexts() map[string]impl.Ins {
	texts := map[string]impl.Ins{}
	for _, w := range wordsOfTable() {
		for _, a := range numbersSome() {
			for b := range w.b + 1 {
				if a >= 0 && a <= w.a {
					texts[w.textOfTable(a, b)] = impl.Ins{Op: w.op, A: a, B: b}
				}
			}
		}
	}
	return texts
}

// numOfText matches the numbers that num may put on the stack.
var numOfText = regexp.MustCompile(`\A(0|[1-9][0-9]{0,5}|1000000)\z`)

// numbersSome are numbers at, below and above all limits, and far from them.
func numbersSome() []int {
	list := []int{math.MinInt, math.MinInt + 1, math.MinInt32, -1000001, -1000000, -256, -40, -3}
	for n := -2; n <= 45; n++ {
		list = append(list, n)
	}
	for _, n := range []int{100, 255, 256, 12345, 257, 65536, 65537, 999999, 1000000, 1000001, 10000000, math.MaxInt32, math.MaxInt32 + 1, 1 << 32, 1<<32 + 1, math.MaxInt - 1, math.MaxInt} {
		list = append(list, n)
	}
	return list
}

// wordsNone are texts that are no words, though near to some.
func wordsNone() []string {
	list := []string{"", " ", "\x00", "\n", "\xff", "nop", "halt", "load", "store", "push", "pop", "dup", "neg", "eq", "lt", "xor", "if", "return", "abort", "num true", "true,false", "n", "b", "o", "S00", "0", "7", "true false me", "ñum", "ｎum", strings.Repeat("num", 100000)}
	words := wordsOfTable()
	for k, w := range words {
		list = append(list, strings.ToUpper(w.op), strings.ToUpper(w.op[:1])+w.op[1:], " "+w.op, w.op+" ", w.op+"\n", w.op+"\x00", "\t"+w.op, w.op+"s", w.op+"0", w.op+w.op, w.op+words[(k+1)%len(words)].op)
		for at := range w.op {
			list = append(list, w.op[:at], w.op[at+1:], w.op[:at]+"x"+w.op[at+1:])
		}
	}
	return slices.DeleteFunc(list, func(s string) bool {
		return slices.ContainsFunc(words, func(w wordOfTable) bool { return w.op == s })
	})
}

// insMany are instructions, of which some are ones: all words, and texts that are none, each with many numbers.
func insMany() []impl.Ins {
	list := []impl.Ins{{}}
	words := wordsNone()
	for _, w := range wordsOfTable() {
		words = append(words, w.op)
	}
	for _, op := range words {
		for _, n := range numbersSome() {
			for _, other := range []int{0, 1, 2, 3, 4, -1, 39, 1000000, math.MinInt, math.MaxInt} {
				list = append(list, impl.Ins{Op: op, A: n, B: other}, impl.Ins{Op: op, A: other, B: n})
			}
		}
	}
	return list
}

// checkIns holds all functions of instructions against the text that one should have, the empty text if it is none.
func checkIns(t *testing.T, i impl.Ins, want string) {
	t.Helper()
	if impl.InsOk(i) != (want != "") {
		t.Errorf("InsOk of %.60q %d %d told %v", i.Op, i.A, i.B, want == "")
	}
	if got := impl.InsText(i); got != want {
		t.Errorf("InsText of %.60q %d %d told %.60q, not %q", i.Op, i.A, i.B, got, want)
	}
	if want == "" {
		return
	}
	if got, ok := impl.InsRead(want); !ok || got != i {
		t.Errorf("InsRead of %q told %v %v", want, got, ok)
	}
}

// checkNoText holds that a text is that of no instruction.
func checkNoText(t *testing.T, text string) {
	t.Helper()
	if i, ok := impl.InsRead(text); ok || i != (impl.Ins{}) {
		t.Errorf("InsRead of %.60q told %.60q %d %d %v", text, i.Op, i.A, i.B, ok)
	}
}

func TestInsConstants(t *testing.T) {
	got := []int{impl.CodeMost, impl.FuncsMost, impl.LocalsMost, impl.ArgsMost}
	if !slices.Equal(got, []int{40, 4, 6, 3}) {
		t.Errorf("the constants are %v", got)
	}
}

func TestInsWritten(t *testing.T) {
	for text, i := range map[string]impl.Ins{
		"num 0": {Op: "num"}, "num 7": {Op: "num", A: 7}, "num 10": {Op: "num", A: 10}, "num 1000000": {Op: "num", A: 1000000},
		"true": {Op: "true"}, "same": {Op: "same"}, "not": {Op: "not"}, "drop": {Op: "drop"}, "fail": {Op: "fail"},
		"copy 0": {Op: "copy"}, "move 5": {Op: "move", A: 5}, "put 3": {Op: "put", A: 3}, "unpack 2": {Op: "unpack", A: 2}, "lendw 4": {Op: "lendw", A: 4},
		"field 0 0": {Op: "field"}, "field 1 2": {Op: "field", A: 1, B: 2}, "field 2 1": {Op: "field", A: 2, B: 1},
		"see 1": {Op: "see", A: 1}, "jump 39": {Op: "jump", A: 39}, "zero 10": {Op: "zero", A: 10},
		"call 0 0": {Op: "call"}, "call 2 3": {Op: "call", A: 2, B: 3}, "call 0 3": {Op: "call", B: 3},
	} {
		checkIns(t, i, text)
	}
}

// TestInsLimits goes through each word with each number that it needs at its limits, one below and one above them.
func TestInsLimits(t *testing.T) {
	for _, w := range wordsOfTable() {
		checkIns(t, impl.Ins{Op: w.op}, w.textOfTable(0, 0))
		checkIns(t, impl.Ins{Op: w.op, A: w.a, B: w.b}, w.textOfTable(w.a, w.b))
		if w.many > 0 {
			checkIns(t, impl.Ins{Op: w.op, A: 1}, w.textOfTable(1, 0))
			checkIns(t, impl.Ins{Op: w.op, A: w.a - 1, B: w.b}, w.textOfTable(w.a-1, w.b))
		}
		if w.many > 1 {
			checkIns(t, impl.Ins{Op: w.op, B: 1}, w.textOfTable(0, 1))
			checkIns(t, impl.Ins{Op: w.op, A: w.a, B: w.b - 1}, w.textOfTable(w.a, w.b-1))
		}
		for _, n := range []int{-1, w.a + 1, math.MinInt, math.MaxInt} {
			for _, other := range []int{0, w.b} {
				checkIns(t, impl.Ins{Op: w.op, A: n, B: other}, "")
			}
		}
		for _, n := range []int{-1, w.b + 1, math.MinInt, math.MaxInt} {
			for _, other := range []int{0, w.a} {
				checkIns(t, impl.Ins{Op: w.op, A: other, B: n}, "")
			}
		}
		for _, text := range []string{w.textOfTable(-1, 0), w.textOfTable(w.a+1, w.b), w.textOfTable(w.a, -1), w.textOfTable(w.a, w.b+1)} {
			if text != w.textOfTable(w.a, w.b) { // else the number is not in the text
				checkNoText(t, text)
			}
		}
	}
}

// TestInsNotNeeded holds that a number that a word does not need is 0, and is not in its text.
func TestInsNotNeeded(t *testing.T) {
	for _, w := range wordsOfTable() {
		for _, n := range numbersSome() {
			if w.many == 0 && n != 0 {
				checkIns(t, impl.Ins{Op: w.op, A: n}, "")
				checkIns(t, impl.Ins{Op: w.op, A: n, B: n}, "")
			}
			if w.many < 2 && n != 0 {
				checkIns(t, impl.Ins{Op: w.op, B: n}, "")
				checkIns(t, impl.Ins{Op: w.op, A: w.a, B: n}, "")
			}
			checkNoText(t, w.textOfTable(0, 0)+" "+strconv.Itoa(n))
			checkNoText(t, w.textOfTable(w.a, w.b)+" "+strconv.Itoa(n))
		}
	}
}

func TestInsNoWords(t *testing.T) {
	for _, op := range wordsNone() {
		for _, n := range []int{0, 1, -1} {
			checkIns(t, impl.Ins{Op: op, A: n}, "")
			checkIns(t, impl.Ins{Op: op, A: n, B: n}, "")
		}
		checkNoText(t, op)
		checkNoText(t, op+" 0")
		checkNoText(t, op+" 0 0")
	}
}

// TestInsMany holds instructions with all sorts of words and numbers against the document's words.
func TestInsMany(t *testing.T) {
	good, none := 0, 0
	for _, i := range insMany() {
		want := insWanted(i)
		checkIns(t, i, want)
		if want == "" {
			none++
		} else {
			good++
		}
	}
	if good < 100 || none < 1000 {
		t.Errorf("%d instructions are good, and %d none", good, none)
	}
}

// TestInsNumbers goes through all that num may put on the stack.
func TestInsNumbers(t *testing.T) {
	for n := range 1000001 {
		i := impl.Ins{Op: "num", A: n}
		text := impl.InsText(i)
		if got, ok := impl.InsRead(text); !ok || got != i || text != "num "+strconv.Itoa(n) {
			t.Fatalf("%v has the text %q, which is read as %v %v", i, text, got, ok)
		}
	}
}

// TestInsReadBlanks holds that one blank alone is ahead of each number, and that numbers are neither more nor fewer than the word needs.
func TestInsReadBlanks(t *testing.T) {
	for text := range insTexts() {
		for _, other := range []string{" " + text, text + " ", text + "  ", text + "\n", text + "\t", text + "\x00", text + ";", text + " " + text, "\n" + text, "(" + text + ")"} {
			checkNoText(t, other)
		}
		for _, blank := range []string{"  ", "", "\t", "\n", "\x00", ",", "_", " \t", "\u00a0"} {
			if strings.Contains(text, " ") {
				checkNoText(t, strings.Replace(text, " ", blank, 1))
				checkNoText(t, strings.ReplaceAll(text, " ", blank))
			}
			if first, second, _ := strings.Cut(text, " "); strings.Contains(second, " ") {
				checkNoText(t, first+" "+strings.Replace(second, " ", blank, 1))
			}
		}
	}
	for _, w := range wordsOfTable() {
		for many := range 5 {
			if many != w.many {
				checkNoText(t, w.op+strings.Repeat(" 0", many))
				checkNoText(t, w.op+strings.Repeat(" 0", many)+" ")
			}
		}
	}
}

// numbersNone are texts of no number: with zeros ahead, with a sign, too long, or in another way.
func numbersNone() []string {
	list := []string{"", " ", "+0", "-0", "+1", "-1", "--1", "- 1", "+", "-", "1.0", "1.", ".1", "1e0", "1_0", "0_1", "0x1", "0X1", "0b1", "0o1", "1a", "a1", "a", "n", "1-", "1+", "1,0", "1'0", "٣", "１", "0\x00", "\x000", "\xff",
		"1000001", "10000000", "-1000000", "2147483648", "4294967296", "4294967297", "9223372036854775807", "9223372036854775808", "-9223372036854775808", "18446744073709551616", "18446744073709551617", "340282366920938463463374607431768211457", strings.Repeat("9", 5000), "1" + strings.Repeat("0", 100000)}
	for _, n := range []string{"0", "1", "2", "5", "39", "1000000"} {
		list = append(list, "0"+n, "00"+n, strings.Repeat("0", 19)+n, strings.Repeat("0", 100000)+n)
	}
	return list
}

func TestInsReadNumbers(t *testing.T) {
	for _, w := range wordsOfTable() {
		for _, n := range numbersNone() {
			checkNoText(t, w.op+" "+n)
			checkNoText(t, w.op+" 0 "+n)
			checkNoText(t, w.op+" "+n+" 0")
			checkNoText(t, w.op+" "+n+" "+n)
		}
	}
}

func TestInsReadLong(t *testing.T) {
	for _, piece := range []string{" ", "num ", "num", "true", "field 0 ", "0", "9", " 0", "call 0 0 ", "\x00"} {
		checkNoText(t, strings.Repeat(piece, 1000000))
		checkNoText(t, "num 1"+strings.Repeat(piece, 1000000))
	}
}

// TestInsWordsOrder holds that the words are those of the document's table, in its order.
func TestInsWordsOrder(t *testing.T) {
	want := []string{}
	for _, w := range wordsOfTable() {
		want = append(want, w.op)
	}
	if got := impl.InsWords(); !slices.Equal(got, want) {
		t.Errorf("InsWords told %v", got)
	}
}

// TestInsWordsApart holds that what is done to the words that were told changes neither those told later, nor any instruction.
func TestInsWordsApart(t *testing.T) {
	first, second := impl.InsWords(), impl.InsWords()
	for i := range first {
		first[i] = "x"
	}
	_ = append(second[:0], "y", "y", "y", "y")
	_ = append(second, "z", "z", "z")
	TestInsWordsOrder(t)
	for text, i := range insTexts() {
		checkIns(t, i, text)
	}
	checkIns(t, impl.Ins{Op: "x"}, "")
	checkIns(t, impl.Ins{Op: "y"}, "")
}

func TestPromise12(t *testing.T) {
	for _, i := range insMany() {
		ok := impl.InsOk(i)
		if text := impl.InsText(i); ok != (text != "") {
			t.Fatalf("InsOk of %v told %v, and InsText %q", i, ok, text)
		}
	}
}

func TestPromise13(t *testing.T) {
	texts := 0
	for _, i := range insMany() {
		if text := impl.InsText(i); text != "" {
			texts++
			if got, ok := impl.InsRead(text); !ok || got != i {
				t.Fatalf("InsRead of %q told %v %v, not %v", text, got, ok, i)
			}
		}
	}
	if texts < 100 {
		t.Errorf("only %d instructions have a text", texts)
	}
}

// insTextsNear are the texts of instructions, and each of them with a byte less, one more, and another one.
func insTextsNear() []string {
	list := []string{}
	for text := range insTexts() {
		list = append(list, text)
		for at := range len(text) + 1 {
			for _, b := range strings.Split("\x00 +-0139anw_.\xff", "") {
				list = append(list, text[:at]+b+text[at:])
				if at < len(text) {
					list = append(list, text[:at]+b+text[at+1:])
				}
			}
			list = append(list, text[:at], text[at:])
			if at < len(text) {
				list = append(list, text[:at]+text[at+1:])
			}
		}
	}
	return list
}

func TestPromise14(t *testing.T) {
	read, none, texts := 0, 0, insTexts()
	for _, text := range append(insTextsNear(), wordsNone()...) {
		want := false
		if n, isNum := strings.CutPrefix(text, "num "); isNum {
			want = numOfText.MatchString(n)
		} else {
			_, want = texts[text]
		}
		if !want {
			none++
			checkNoText(t, text)
			continue
		}
		read++
		if i, ok := impl.InsRead(text); !ok || !impl.InsOk(i) || impl.InsText(i) != text {
			t.Errorf("InsRead of %q told %v %v", text, i, ok)
		}
	}
	if read < 200 || none < 10000 {
		t.Errorf("%d texts were read, and %d not", read, none)
	}
}

func TestPromise15(t *testing.T) {
	seen := map[string]bool{}
	for _, word := range impl.InsWords() {
		if !impl.InsOk(impl.Ins{Op: word}) {
			t.Errorf("%q makes no instruction with the numbers 0", word)
		}
		if seen[word] {
			t.Errorf("%q stands twice", word)
		}
		seen[word] = true
	}
	if len(seen) != 37 {
		t.Errorf("there are %d words", len(seen))
	}
}

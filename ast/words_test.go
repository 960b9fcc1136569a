package ast

import (
	"math"
	"regexp"
	"slices"
	"strconv"
	"strings"
	"testing"
)

// operatorRows are the operators as the chapter tells them, by their numbers: a text, a level, how many operands.
const operatorRows = `|| 1 2, && 2 2, == 3 2, != 3 2, < 4 2, <= 4 2, > 4 2, >= 4 2, | 5 2, ^ 5 2, & 6 2, << 7 2, >> 7 2,
	+ 8 2, - 8 2, * 9 2, / 9 2, % 9 2, - 10 1, ! 10 1, ~ 10 1`

const keywordRow = "array call else if in main output proc public secret skip var while"

// P6.1: each operator has its number, its text, its level, and its operands.
func TestOperators(t *testing.T) {
	named := []Op{Or, And, Eq, Ne, Lt, Le, Gt, Ge, BitOr, Xor, BitAnd, Shl, Shr, Add, Sub, Mul, Div, Rem, Neg, Not, Inv}
	rows := strings.Split(operatorRows, ",")
	if len(rows) != 21 || len(named) != 21 {
		t.Fatal(len(rows), len(named))
	}
	for i, row := range rows {
		o, want := Op(i), strings.Fields(row)
		if named[i] != o {
			t.Errorf("%s has the number %d", row, named[i])
		}
		if o.Text() != want[0] || strconv.Itoa(o.Level()) != want[1] || o.One() != (want[2] == "1") {
			t.Errorf("%d: %q, %d, %t; want %s", i, o.Text(), o.Level(), o.One(), row)
		}
	}
	for _, o := range []Op{-1, 21, -2, 22, -18, 39, 256, 1 << 32, math.MinInt, math.MaxInt} {
		if o.Text() != "" || o.Level() != 0 || o.One() {
			t.Errorf("%d: %q, %d, %t", o, o.Text(), o.Level(), o.One())
		}
	}
}

// P6.1, P6.5: an operator is found by its text, and by no other one.
func TestOperatorsFound(t *testing.T) {
	type asked struct {
		text string
		one  bool
	}
	want := map[asked]Op{}
	for i, row := range strings.Split(operatorRows, ",") {
		f := strings.Fields(row)
		want[asked{f[0], f[2] == "1"}] = Op(i)
	}
	if len(want) != 21 || want[asked{"-", true}] != Neg || want[asked{"-", false}] != Sub {
		t.Fatal(want)
	}
	check := func(text string) {
		for _, one := range []bool{false, true} {
			o, ok := Operator(text, one)
			wanted, there := want[asked{text, one}]
			if o != wanted || ok != there {
				t.Errorf("%q, %t: %d, %t; want %d, %t", text, one, o, ok, wanted, there)
			}
			if ok && (o.Text() != text || o.One() != one) {
				t.Errorf("%q, %t: %q, %t", text, one, o.Text(), o.One())
			}
		}
	}
	for a := range 256 {
		check(string([]byte{byte(a)}))
		for b := range 256 {
			check(string([]byte{byte(a), byte(b)}))
		}
	}
	for _, text := range []string{"", "===", "<<<", "<<=", ">>>", "&&&", "|||", " +", "+ ", "-\n", "--", "=", "add", "Add", "\x00", "−", strings.Repeat("+", 1000)} {
		check(text)
	}
	for o := Or; o <= Inv; o++ {
		if x, ok := Operator(o.Text(), o.One()); x != o || !ok {
			t.Errorf("%d is found as %d, %t", o, x, ok)
		}
		_, ok := Operator(o.Text(), !o.One())
		if ok != (o == Neg || o == Sub) {
			t.Errorf("%s, the other way: %t", o.Text(), ok)
		}
	}
}

// P6.1: keywords, as they stand in the chapter.
func TestKeywords(t *testing.T) {
	if l := Keywords(); !slices.Equal(l, strings.Fields(keywordRow)) {
		t.Error(l)
	}
	for _, k := range strings.Fields(keywordRow) {
		if !Word(k) || Name(k) {
			t.Errorf("%s: %t, %t", k, Word(k), Name(k))
		}
		for _, s := range []string{k + "_", "_" + k, k + "1", k[1:], k[:len(k)-1], strings.ToUpper(k), strings.ToUpper(k[:1]) + k[1:]} {
			if !Word(s) || !Name(s) {
				t.Errorf("%s: %t, %t", s, Word(s), Name(s))
			}
		}
		for _, s := range []string{k + " ", " " + k, k + "\n", "1" + k} {
			if Word(s) || Name(s) {
				t.Errorf("%q: %t, %t", s, Word(s), Name(s))
			}
		}
	}
}

// P6.4: the row of keywords is new each time, and those who ask for names do not see it.
func TestKeywordsNew(t *testing.T) {
	l := Keywords()
	l = l[:cap(l)]
	for i := range l {
		l[i] = "x"
	}
	if again := Keywords(); !slices.Equal(again, strings.Fields(keywordRow)) || Name("if") || !Name("x") {
		t.Error(again)
	}
}

var (
	wordPattern = regexp.MustCompile(`\A[A-Za-z_][A-Za-z_0-9]{0,31}\z`)
	keyPattern  = regexp.MustCompile(`\A(?:` + strings.ReplaceAll(keywordRow, " ", "|") + `)\z`)
)

// P6.1: words and names, against patterns.
func TestWords(t *testing.T) {
	check := func(s string) {
		word := wordPattern.MatchString(s)
		if Word(s) != word || Name(s) != (word && !keyPattern.MatchString(s)) {
			t.Errorf("%q: %t, %t", s, Word(s), Name(s))
		}
	}
	check("")
	for a := range 256 {
		check(string([]byte{byte(a)}))
		for b := range 256 {
			check(string([]byte{byte(a), byte(b)}))
		}
		for _, n := range []int{30, 31, 32, 33, 1000} {
			check(string([]byte{byte(a)}) + strings.Repeat("x", n-1))
			check(strings.Repeat("x", n-1) + string([]byte{byte(a)}))
			check(strings.Repeat("x", n/2) + string([]byte{byte(a)}) + strings.Repeat("9", n-1-n/2))
		}
	}
	for n := range 100 {
		for _, s := range []string{"a", "_", "Z", "0"} {
			check(strings.Repeat(s, n))
			check("b" + strings.Repeat(s, n))
		}
	}
	for _, s := range []string{"é", "aé", "Ω", "x\x00", "\x00x", "a-b", "a.b", "whilе"} {
		check(s)
	}
	long := "a2345678901234567890123456789012"
	if len(long) != 32 || !Word(long) || !Name(long) || Word(long+"3") || Name(long+"3") {
		t.Error("32 bytes, and 33")
	}
	if Name("if") || !Name("x1") || Word("1x") || Name("1x") || Word("") || Name("") || !Word("_") || !Name("_9") {
		t.Error("the chapter's")
	}
}

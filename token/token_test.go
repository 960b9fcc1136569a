package token

import (
	"math"
	"math/big"
	"regexp"
	"slices"
	"strings"
	"testing"
	"unsafe"

	"sieveholes/api"
	"sieveholes/pos"
)

// What a text is cut into is held against patterns, and against what was written by hand.

var (
	betweenTokens = regexp.MustCompile(`\A(?:[\t\n\r ]|#[^\n]*)*`)
	isBetween     = regexp.MustCompile(betweenTokens.String() + `\z`)
	patterns      = []*regexp.Regexp{
		Word: regexp.MustCompile(`\A[A-Za-z_][A-Za-z_0-9]*`),
		Int:  regexp.MustCompile(`\A[0-9]+`),
		Sign: regexp.MustCompile(`\A(?:\|\||&&|==|!=|<=|>=|<<|>>|[-<>=+*/%&|^!~(){}\[\],;])`),
		End:  regexp.MustCompile(`\A\z`),
	}
	signs = strings.Fields("|| && == != <= >= << >> < > = + - * / % & | ^ ! ~ ( ) { } [ ] , ;")
)

// patternNext is what Next must answer. Its positions are found by a walk over the bytes.
func patternNext(text string, place int) (Token, int, pos.Fault) {
	place = min(max(place, 0), len(text))
	place += len(betweenTokens.FindString(text[place:]))
	for kind, pattern := range patterns {
		if found := pattern.FindStringIndex(text[place:]); found != nil {
			s := text[place : place+found[1]]
			n, e := patternNumber(Kind(kind), s)
			if e != api.OK {
				return Token{}, place, pos.Fault{At: walk(text, place), Err: e}
			}
			return Token{Kind(kind), s, n, walk(text, place)}, place + len(s), pos.Fault{}
		}
	}
	return Token{}, place, pos.Fault{At: walk(text, place), Err: api.ErrChar}
}

func patternNumber(kind Kind, s string) (int64, api.Errno) {
	if kind == Word && len(s) > 32 {
		return 0, api.ErrWord
	}
	if kind != Int {
		return 0, api.OK
	}
	n, _ := new(big.Int).SetString(s, 10)
	if n.String() != s || n.Cmp(new(big.Int).Lsh(big.NewInt(1), 63)) > 0 {
		return 0, api.ErrNumber
	}
	if !n.IsInt64() {
		return math.MinInt64, api.OK
	}
	return n.Int64(), api.OK
}

func walk(text string, place int) pos.Pos {
	at := pos.Pos{Line: 1, Col: 1}
	for _, b := range []byte(text[:place]) {
		at.Col++
		if b == 10 {
			at.Line, at.Col = at.Line+1, 1
		}
	}
	return at
}

func patternAll(text string) ([]Token, pos.Fault) {
	var l []Token
	for place := 0; ; {
		t, next, f := patternNext(text, place)
		if f.Err != api.OK {
			return nil, f
		}
		l = append(l, t)
		if t.Kind == End {
			return l, pos.Fault{}
		}
		place = next
	}
}

// words are all texts of at most so many of these bytes.
func words(bytes string, most int) []string {
	list := []string{""}
	for from := 0; most > 0; most-- {
		until := len(list)
		for ; from < until; from++ {
			for i := range len(bytes) {
				list = append(list, list[from]+bytes[i:i+1])
			}
		}
	}
	return list
}

// pairs are each byte alone and beside each other one.
func pairs() []string {
	every := make([]byte, 256)
	for i := range every {
		every[i] = byte(i)
	}
	return words(string(every), 2)
}

// some are texts of all kinds of things, right and wrong.
func some() []string {
	return []string{
		"x=1<<y;", "a # b", "12ab", "007; x@y", "x@y", "main { while x < s { x = x + 1; } }\n", "secret s in [-9223372036854775808, 9223372036854775807];",
		"", " ", "\t\n\r ", "#", "##", "# a", "#\n", "# a\n", "# a\n# b", "# a\n\n\t# b\n ", "a#", "a#\nb", "a # b\nc # d\n", "#a\rb\nc", "# \xff\x00@ 007\nc", "a\r\nb\r\n", "\n\n  a\n\n\n b",
		"0", "1", "9", "10", "100", "00", "01", "000", "0 0", "0a", "0_", "a0", "00a", "9223372036854775806", "9223372036854775807", "9223372036854775808", "9223372036854775809", "9223372036854775810", "09223372036854775807", "9999999999999999999", "10000000000000000000",
		"18446744073709551615", "18446744073709551616", "18446744073709551617", "27670116110564327424", strings.Repeat("9", 1000), strings.Repeat("0", 1000), "1" + strings.Repeat("0", 1000), "-1", "-9223372036854775808", "- 9223372036854775809", "1_000", "0x1F", "1e9", "1.5", ".5",
		strings.Repeat("a", 31), strings.Repeat("a", 32), strings.Repeat("a", 33), strings.Repeat("Z", 64), strings.Repeat("_", 32), strings.Repeat("_", 33), "a" + strings.Repeat("9", 31), "a" + strings.Repeat("9", 32), strings.Repeat("a", 32) + " b", strings.Repeat("a", 32) + "@", strings.Repeat("a", 32) + "\u00e4", strings.Repeat("a", 33) + "@", "9" + strings.Repeat("a", 32), "9" + strings.Repeat("a", 33),
		"a b 007", "a\nb @ 007", "@ 007", "007 @", "x\n  y $", strings.Repeat("a", 33) + " 007", "007 " + strings.Repeat("a", 33), "# 007\n@", "a # @\n 01", "\xef\xbb\xbfa", "\u00e4", "a\u00e4", "\u00a0a", "\u2028", "\u0661", "\uff41", "a\x00b", "\x00", "\x0b", "\x0c", "\x7f", "\x80", "\x85", "\xa0", "\xff", "\"a\"", "'a'", "a.b", "a:b", "a?b", "a\\b", "$", "`",
		"<<<", "<<=", ">>>=", "<=>", "==!", "!==", "===", "&&&", "|||", "!!=", "=<", "=>", "=!", "-->", "++", "//", "/*a*/", "**", "^^", "~~", "(){}[],;", ";;", "x<-1", "!~-x", "a&&b||c", "a& &b",
	}
}

func eachText(visit func(text string)) {
	for _, list := range [][]string{words("a0#\n <=@", 4), words("a19 &|!>", 4), pairs(), some()} {
		for _, text := range list {
			visit(text)
		}
	}
}

// P5.1

func TestNext(t *testing.T) {
	eachText(func(text string) {
		for place := -1; place <= len(text)+1; place++ {
			checkNext(t, text, place)
		}
		for _, place := range []int{math.MinInt, math.MinInt + 1, math.MinInt32, math.MaxInt32, math.MaxInt - 1, math.MaxInt} {
			checkNext(t, text, place)
		}
	})
}

func checkNext(t *testing.T, text string, place int) {
	t.Helper()
	wantToken, wantNext, wantFault := patternNext(text, place)
	if x, next, f := Next(text, place); x != wantToken || next != wantNext || f != wantFault {
		t.Errorf("%q, %d: %v, %d, %v, and not %v, %d, %v", text, place, x, next, f, wantToken, wantNext, wantFault)
	}
}

func TestNextByHand(t *testing.T) {
	for i, x := range []struct {
		text  string
		place int
		want  Token
		next  int
	}{
		{"x = 1;", 0, Token{Word, "x", 0, pos.Pos{Line: 1, Col: 1}}, 1},
		{"x = 1;", 1, Token{Sign, "=", 0, pos.Pos{Line: 1, Col: 3}}, 3},
		{"x = 1;", 3, Token{Int, "1", 1, pos.Pos{Line: 1, Col: 5}}, 5},
		{"x = 1;", 6, Token{End, "", 0, pos.Pos{Line: 1, Col: 7}}, 6},
		{"x = 1;", 7, Token{End, "", 0, pos.Pos{Line: 1, Col: 7}}, 6},
		{"x = 1;", math.MaxInt, Token{End, "", 0, pos.Pos{Line: 1, Col: 7}}, 6},
		{"x = 1;", -1, Token{Word, "x", 0, pos.Pos{Line: 1, Col: 1}}, 1},
		{"x = 1;", math.MinInt, Token{Word, "x", 0, pos.Pos{Line: 1, Col: 1}}, 1},
		{"", 0, Token{End, "", 0, pos.Pos{Line: 1, Col: 1}}, 0},
		{" \t\r\n # c", 0, Token{End, "", 0, pos.Pos{Line: 2, Col: 5}}, 8},
		{"# c\n", 0, Token{End, "", 0, pos.Pos{Line: 2, Col: 1}}, 4},
		{"# c\nx", 0, Token{Word, "x", 0, pos.Pos{Line: 2, Col: 1}}, 5},
		{"# c", 3, Token{End, "", 0, pos.Pos{Line: 1, Col: 4}}, 3},
		{"ab\n # c\n\n  <<=", 2, Token{Sign, "<<", 0, pos.Pos{Line: 4, Col: 3}}, 13},
		{"word", 2, Token{Word, "rd", 0, pos.Pos{Line: 1, Col: 3}}, 4},
		{"<<=", 1, Token{Sign, "<=", 0, pos.Pos{Line: 1, Col: 2}}, 3},
		{"<<=", 2, Token{Sign, "=", 0, pos.Pos{Line: 1, Col: 3}}, 3},
		{"a12", 1, Token{Int, "12", 12, pos.Pos{Line: 1, Col: 2}}, 3},
		{"19223372036854775808", 1, Token{Int, "9223372036854775808", math.MinInt64, pos.Pos{Line: 1, Col: 2}}, 20},
		{strings.Repeat("a", 33), 1, Token{Word, strings.Repeat("a", 32), 0, pos.Pos{Line: 1, Col: 2}}, 33},
	} {
		if got, next, f := Next(x.text, x.place); got != x.want || next != x.next || f != (pos.Fault{}) {
			t.Errorf("%d: %v, %d, %v", i, got, next, f)
		}
	}
}

func TestNextFault(t *testing.T) {
	for i, x := range []struct {
		text  string
		place int
		next  int
		want  pos.Fault
	}{
		{"007", 0, 0, pos.Fault{At: pos.Pos{Line: 1, Col: 1}, Err: api.ErrNumber}},
		{"007", 1, 1, pos.Fault{At: pos.Pos{Line: 1, Col: 2}, Err: api.ErrNumber}},
		{"9223372036854775809", 0, 0, pos.Fault{At: pos.Pos{Line: 1, Col: 1}, Err: api.ErrNumber}},
		{strings.Repeat("a", 33), 0, 0, pos.Fault{At: pos.Pos{Line: 1, Col: 1}, Err: api.ErrWord}},
		{"x@y", 1, 1, pos.Fault{At: pos.Pos{Line: 1, Col: 2}, Err: api.ErrChar}},
		{"x # c\n\n  @ 007", 1, 9, pos.Fault{At: pos.Pos{Line: 3, Col: 3}, Err: api.ErrChar}},
		{"x # c\n\n  @ 007", 10, 11, pos.Fault{At: pos.Pos{Line: 3, Col: 5}, Err: api.ErrNumber}},
		{"\u00e4", 1, 1, pos.Fault{At: pos.Pos{Line: 1, Col: 2}, Err: api.ErrChar}},
	} {
		if got, next, f := Next(x.text, x.place); got != (Token{}) || next != x.next || f != x.want {
			t.Errorf("%d: %v, %d, %v", i, got, next, f)
		}
	}
	if x, next, f := Next("x@y", 0); x.Text != "x" || next != 1 || f != (pos.Fault{}) { // the fault is behind the token
		t.Errorf("%v, %d, %v", x, next, f)
	}
}

func TestEachByte(t *testing.T) {
	const letters = "abcdefghijklmnopqrstuvwxyzABCDEFGHIJKLMNOPQRSTUVWXYZ_"
	for i := range 256 {
		s := string([]byte{byte(i)})
		want := Token{Text: s, At: pos.Pos{Line: 1, Col: 1}}
		switch {
		case strings.Contains(letters, s):
			want.Kind = Word
		case strings.Contains("0123456789", s):
			want.Kind, want.N = Int, int64(i-'0')
		case slices.Contains(signs, s):
			want.Kind = Sign
		case s == "\n":
			want = Token{Kind: End, At: pos.Pos{Line: 2, Col: 1}}
		case strings.Contains("\t\r #", s):
			want = Token{Kind: End, At: pos.Pos{Line: 1, Col: 2}}
		default:
			if x, next, f := Next(s, 0); x != (Token{}) || next != 0 || f != (pos.Fault{At: pos.Pos{Line: 1, Col: 1}, Err: api.ErrChar}) {
				t.Errorf("%q: %v, %d, %v", s, x, next, f)
			}
			continue
		}
		if x, next, f := Next(s, 0); x != want || next != 1 || f != (pos.Fault{}) {
			t.Errorf("%q: %v, %d, %v", s, x, next, f)
		}
	}
}

func TestSigns(t *testing.T) {
	for _, a := range signs {
		for _, b := range append([]string{"", "a", "1", " ", "\n", "# c"}, signs...) {
			want := a
			if slices.Contains(signs, a+b) { // then it is one, and a longer one
				want = a + b
			} else if len(a) == 1 && b != "" && slices.Contains(signs, a+b[:1]) {
				want = a + b[:1]
			}
			if x, next, f := Next(a+b, 0); x != (Token{Sign, want, 0, pos.Pos{Line: 1, Col: 1}}) || next != len(want) || f != (pos.Fault{}) {
				t.Errorf("%s, %s: %v, %d, %v", a, b, x, next, f)
			}
		}
	}
	if len(signs) != 29 {
		t.Errorf("%d signs", len(signs))
	}
}

func TestKinds(t *testing.T) {
	if Word != 0 || Int != 1 || Sign != 2 || End != 3 {
		t.Error(Word, Int, Sign, End)
	}
}

// P5.2

func TestAll(t *testing.T) {
	eachText(func(text string) {
		want, wantFault := patternAll(text)
		if l, f := All(text); !slices.Equal(l, want) || f != wantFault {
			t.Errorf("%q: %v, %v, and not %v, %v", text, l, f, want, wantFault)
		}
	})
}

func TestAllByHand(t *testing.T) {
	for _, x := range []struct{ text, told string }{
		{"", "3@1:1"},
		{" \t\r\n", "3@2:1"},
		{"#", "3@1:2"},
		{"# c\n", "3@2:1"},
		{"x=1<<y;", "0x@1:1 2=@1:2 11@1:3 2<<@1:4 0y@1:6 2;@1:7 3@1:8"},
		{"a # b", "0a@1:1 3@1:6"},
		{"a#b\n#c\n d", "0a@1:1 0d@3:2 3@3:3"},
		{"12ab", "112@1:1 0ab@1:3 3@1:5"},
		{"0 0a", "10@1:1 10@1:3 0a@1:4 3@1:5"},
		{"a\r\nb\rc\n", "0a@1:1 0b@2:1 0c@2:3 3@3:1"},
		{"x<=-9223372036854775808", "0x@1:1 2<=@1:2 2-@1:4 19223372036854775808@1:5 3@1:24"},
		{"{{\n}}", "2{@1:1 2{@1:2 2}@2:1 2}@2:2 3@2:3"},
	} {
		l, f := All(x.text)
		var told []string
		for _, token := range l {
			told = append(told, string('0'+rune(token.Kind))+token.Text+"@"+token.At.Text())
		}
		if strings.Join(told, " ") != x.told || f != (pos.Fault{}) {
			t.Errorf("%q: %q, %v", x.text, told, f)
		}
	}
}

func TestNumbers(t *testing.T) {
	for s, want := range map[string]int64{"0": 0, "1": 1, "9": 9, "10": 10, "4294967296": 1 << 32, "9223372036854775799": math.MaxInt64 - 8, "9223372036854775807": math.MaxInt64, "9223372036854775808": math.MinInt64} {
		l, f := All(s)
		if len(l) != 2 || l[0] != (Token{Int, s, want, pos.Pos{Line: 1, Col: 1}}) || f != (pos.Fault{}) {
			t.Errorf("%s: %v, %v", s, l, f)
		}
	}
	for _, s := range []string{"00", "01", "007", "0123456789", "9223372036854775809", "9223372036854775810", "9999999999999999999", "10000000000000000000", "18446744073709551615", "18446744073709551616", "18446744073709551617", "1" + strings.Repeat("0", 1<<20), strings.Repeat("0", 1<<20)} {
		checkFault(t, s, "1:1 51")
		checkFault(t, "x\n = "+s+"; @", "2:4 51")
	}
}

func TestFaults(t *testing.T) {
	for _, x := range []struct{ text, fault string }{
		{"007; x@y", "1:1 51"}, {"x@y", "1:2 50"}, {"@", "1:1 50"}, {"a b\nc @", "2:3 50"}, {"# @\n\n @", "3:2 50"}, {"x\x00", "1:2 50"}, {"\xc3\xa4", "1:1 50"}, {"x\xc3\xa4", "1:2 50"},
		{"@ 007", "1:1 50"}, {"007 @", "1:1 51"}, {"x 01 @", "1:3 51"}, {"x\n@\n01", "2:1 50"},
		{strings.Repeat("a", 33), "1:1 52"}, {"x " + strings.Repeat("a", 33), "1:3 52"}, {strings.Repeat("a", 33) + "@", "1:1 52"}, {"@" + strings.Repeat("a", 33), "1:1 50"}, {strings.Repeat("_", 1<<20), "1:1 52"}, {"1" + strings.Repeat("x", 33), "1:2 52"}, {"a" + strings.Repeat("0", 32), "1:1 52"},
	} {
		checkFault(t, x.text, x.fault)
	}
	for _, s := range []string{strings.Repeat("a", 32), strings.Repeat("_", 32), "a" + strings.Repeat("0", 31)} {
		if l, f := All(s); len(l) != 2 || l[0].Text != s || f != (pos.Fault{}) {
			t.Errorf("%s: %v, %v", s, l, f)
		}
	}
}

func checkFault(t *testing.T, text, fault string) {
	t.Helper()
	if l, f := All(text); l != nil || f.Text() != fault {
		t.Errorf("%.80q: %v, %s", text, l, f.Text())
	}
}

func TestLongTexts(t *testing.T) {
	const many = 1 << 18
	for _, x := range []struct {
		text   string
		tokens int
		end    pos.Pos
	}{
		{strings.Repeat("a ", many), many + 1, pos.Pos{Line: 1, Col: 2*many + 1}},
		{strings.Repeat("1\n", many), many + 1, pos.Pos{Line: many + 1, Col: 1}},
		{strings.Repeat(";", many), many + 1, pos.Pos{Line: 1, Col: many + 1}},
		{strings.Repeat("#", many), 1, pos.Pos{Line: 1, Col: many + 1}},
		{strings.Repeat("#\n", many), 1, pos.Pos{Line: many + 1, Col: 1}},
	} {
		l, f := All(x.text)
		if len(l) != x.tokens || l[len(l)-1] != (Token{Kind: End, At: x.end}) || f != (pos.Fault{}) {
			t.Errorf("%.8q: %d tokens, %v", x.text, len(l), f)
		}
	}
	checkFault(t, strings.Repeat("a\n", many)+"@", "262145:1 50")
}

// P5.3

// isRight are the patterns of right tokens' texts, but for what a number is.
func isRight(x Token) bool {
	switch x.Kind {
	case Word:
		return regexp.MustCompile(`\A[A-Za-z_][A-Za-z_0-9]{0,31}\z`).MatchString(x.Text) && x.N == 0
	case Int:
		if !regexp.MustCompile(`\A[0-9]+\z`).MatchString(x.Text) {
			return false
		}
		n, e := patternNumber(Int, x.Text)
		return e == api.OK && x.N == n
	case Sign:
		return slices.Contains(signs, x.Text) && x.N == 0
	case End:
		return x.Text == "" && x.N == 0
	}
	return false
}

func TestRight(t *testing.T) {
	for _, text := range slices.Concat(words("a0#\n <=@", 2), pairs()[:257], signs, some()) {
		for _, kind := range []Kind{Word, Int, Sign, End, -1, 4, math.MinInt, math.MaxInt} {
			for _, n := range []int64{0, 1, 9, 10, -1, math.MaxInt64, math.MinInt64} {
				for _, at := range []pos.Pos{{}, {Line: 7, Col: -3}} {
					x := Token{kind, text, n, at}
					if Right(x) != isRight(x) {
						t.Errorf("%v: %v", x, !isRight(x))
					}
				}
			}
		}
	}
}

func TestRightByHand(t *testing.T) {
	for _, x := range []Token{{}, {Kind: End, Text: " "}, {Kind: End, Text: "# c"}, {Kind: End, Text: "a"}, {Kind: End, N: 1}, {Text: "a", N: 1}, {Text: "a "}, {Text: " a"}, {Text: "a#"}, {Text: "#\na"}, {Text: "a b"}, {Text: "1"}, {Text: "1a"}, {Text: ";"}, {Text: strings.Repeat("a", 33)},
		{Kind: Int}, {Kind: Int, Text: "a"}, {Kind: Int, Text: "5"}, {Kind: Int, Text: "5", N: 6}, {Kind: Int, Text: "05", N: 5}, {Kind: Int, Text: "-5", N: -5}, {Kind: Int, Text: "+5", N: 5}, {Kind: Int, Text: "5 ", N: 5}, {Kind: Int, Text: "5 5", N: 5}, {Kind: Int, Text: "9223372036854775808", N: math.MaxInt64}, {Kind: Int, Text: "9223372036854775809", N: math.MinInt64 + 1}, {Kind: Int, Text: "18446744073709551616"},
		{Kind: Sign}, {Kind: Sign, Text: "<<="}, {Kind: Sign, Text: "=>"}, {Kind: Sign, Text: "@"}, {Kind: Sign, Text: ";", N: 1}, {Kind: Sign, Text: "; "}, {Kind: Sign, Text: "a"}, {Kind: 4, Text: "a"}, {Kind: 4}, {Kind: -1, Text: ";"}} {
		if Right(x) {
			t.Errorf("%v is right", x)
		}
	}
	for _, x := range []Token{{Text: "a"}, {Text: "_"}, {Text: "Zz_9"}, {Text: strings.Repeat("a", 32)}, {Kind: Int, Text: "0"}, {Kind: Int, Text: "5", N: 5}, {Kind: Int, Text: "9223372036854775808", N: math.MinInt64}, {Kind: Sign, Text: "<<"}, {Kind: Sign, Text: "|"}, {Kind: End}, {Kind: End, At: pos.Pos{Line: -1, Col: -1}}} {
		if !Right(x) {
			t.Errorf("%v is not right", x)
		}
	}
}

func TestSame(t *testing.T) {
	var list []Token
	for _, kind := range []Kind{Word, Int, Sign, End, 9} {
		for _, text := range []string{"", "a", "b", "1"} {
			for _, n := range []int64{0, 1, math.MinInt64} {
				list = append(list, Token{kind, text, n, pos.Pos{Line: 1, Col: 1}})
			}
		}
	}
	for i, a := range list {
		for j, b := range list {
			for _, at := range []pos.Pos{{Line: 1, Col: 1}, {Line: 1, Col: 2}, {Line: 2, Col: 1}, {}} {
				b.At = at
				if Same(a, b) != (i == j) || Same(b, a) != (i == j) {
					t.Errorf("%v, %v: %v", a, b, i != j)
				}
			}
		}
	}
}

func TestJoin(t *testing.T) {
	end, empty := Token{Kind: End}, Token{}
	a, b, c := Token{Text: "a"}, Token{Kind: Int, Text: "1", N: 1}, Token{Kind: Sign, Text: "<<"}
	for i, x := range []struct {
		list []Token
		want string
	}{
		{nil, ""}, {[]Token{}, ""}, {[]Token{end}, ""}, {[]Token{end, end}, ""}, {[]Token{a}, "a"}, {[]Token{a, end}, "a"}, {[]Token{end, a}, "a"}, {[]Token{a, b, c}, "a 1 <<"}, {[]Token{a, b, c, end}, "a 1 <<"}, {[]Token{end, a, end, end, b, end, c, end}, "a 1 <<"}, {[]Token{c, c, a, a}, "<< << a a"},
		{[]Token{empty}, ""}, {[]Token{empty, empty}, " "}, {[]Token{empty, a}, " a"}, {[]Token{a, empty}, "a "}, {[]Token{a, empty, b}, "a  1"}, {[]Token{end, empty, end, a}, " a"},
		{[]Token{{Kind: End, Text: "x"}, a}, "a"}, {[]Token{{Kind: 9, Text: "x"}, a}, "x a"}, {[]Token{{Text: "# c\n"}, {Kind: -1, Text: "\xff"}}, "# c\n \xff"},
	} {
		if got := Join(x.list...); got != x.want {
			t.Errorf("%d: %q", i, got)
		}
	}
	if got := Join(); got != "" {
		t.Errorf("%q", got)
	}
}

// P5.5

func TestTokensStandInTheText(t *testing.T) {
	eachText(func(text string) {
		l, f := All(text)
		if f.Err != api.OK {
			return
		}
		behind := 0
		for i, x := range l {
			place, ok := pos.Place(text, x.At)
			if !ok || !strings.HasPrefix(text[place:], x.Text) || place < behind || !isBetween.MatchString(text[behind:place]) {
				t.Errorf("%q: %v is not there", text, x)
			}
			if i > 0 && pos.Cmp(l[i-1].At, x.At) >= 0 || !Right(x) || (x.Kind == End) != (i == len(l)-1) {
				t.Errorf("%q: %v", text, l)
			}
			behind = place + len(x.Text)
		}
		if behind != len(text) {
			t.Errorf("%q: %v", text, l)
		}
	})
}

func TestJoinedTokensAreToldAsTheyWere(t *testing.T) {
	eachText(func(text string) {
		if l, f := All(text); f.Err == api.OK {
			checkJoined(t, l)
		}
	})
	right := []Token{{Text: "a"}, {Text: strings.Repeat("_", 32)}, {Kind: Int, Text: "0"}, {Kind: Int, Text: "9223372036854775808", N: math.MinInt64}}
	for _, s := range signs {
		right = append(right, Token{Kind: Sign, Text: s})
	}
	for _, a := range right {
		for _, b := range right {
			checkJoined(t, []Token{a, b, a, {Kind: End}})
		}
	}
}

func checkJoined(t *testing.T, l []Token) {
	t.Helper()
	if again, f := All(Join(l...)); !slices.EqualFunc(l, again, Same) || f != (pos.Fault{}) {
		t.Errorf("%v: %v, %v", l, again, f)
	}
}

// P5.4: what was handed in is only read, and what was answered is new memory.

func TestTokensAreNew(t *testing.T) {
	for _, text := range some() {
		want, wantFault := patternAll(text)
		first, _ := All(text)
		second, _ := All(text)
		first = first[:cap(first)]
		for i := range first {
			first[i] = Token{9, "written over", 9, pos.Pos{Line: 9, Col: 9}}
		}
		if third, f := All(text); !slices.Equal(second, want) || !slices.Equal(third, want) || f != wantFault {
			t.Errorf("%q: %v, %v, %v", text, second, third, f)
		}
	}
}

func TestTextsMayBeWrittenOver(t *testing.T) {
	for _, text := range some() {
		want, wantFault := patternAll(text)
		bytes := []byte(text + "behind it")
		lent := unsafe.String(&bytes[0], len(text))
		l, f := All(lent)
		x, next, g := Next(lent, 0)
		if string(bytes) != text+"behind it" {
			t.Fatalf("%q is now %q", text, bytes)
		}
		for i := range bytes {
			bytes[i] = '?'
		}
		if !slices.Equal(l, want) || f != wantFault {
			t.Errorf("%q: %v, %v", text, l, f)
		}
		wantToken, wantNext, wantFault := patternNext(text, 0)
		if x != wantToken || next != wantNext || g != wantFault {
			t.Errorf("%q: %v, %d, %v", text, x, next, g)
		}
	}
}

func TestRowsAreOnlyRead(t *testing.T) {
	bytes := []byte("abc")
	row := []Token{{Kind: End}, {Text: unsafe.String(&bytes[0], 3)}, {Kind: End}, {Kind: Sign, Text: ";"}, {Text: "behind"}}
	before := slices.Clone(row)
	for until := range len(row) {
		joined := Join(row[:until]...)
		want := strings.Clone(joined)
		if !slices.Equal(row, before) || string(bytes) != "abc" {
			t.Fatalf("%d: the row is now %v", until, row)
		}
		copy(bytes, "???")
		clear(row)
		if joined != want {
			t.Errorf("%d: %q hangs on the row", until, joined)
		}
		copy(bytes, "abc")
		copy(row, before)
		if again := Join(row[:until]...); again != want {
			t.Errorf("%d: %q, and was %q", until, again, want)
		}
	}
}

package pos

import (
	"math"
	"math/big"
	"regexp"
	"slices"
	"strconv"
	"strings"
	"testing"

	"sieveholes/api"
)

// words are all texts of at most so many of these bytes.
func words(bytes string, most int) []string {
	list := []string{""}
	for from := 0; most > 0; most-- {
		until := len(list)
		for ; from < until; from++ {
			for i := range len(bytes) {
				list = append(list, list[from]+bytes[i:i+1])
			}
		}
	}
	return list
}

// texts are all short ones of one letter and bytes 10, and some of other bytes.
func texts() []string {
	return append(words("a\n", 7), "x = 1;\n\noutput x;", "ab\nc", "ab\nc\n", "\r\n", "a\r\nb\r\n", "\r\r", "\x00\n\x00", "\u00e4\u00f6\n\u2028\u0085\n", "\xff\n\xfe\xff",
		"\x0a\x0b\x0c\x0d", "\t a\n\tb", strings.Repeat("\n", 300), strings.Repeat("abc", 300), strings.Repeat("abc\n", 300))
}

// positions are those of all places of a text, found by going over its bytes.
func positions(text string) []Pos {
	at := Pos{1, 1}
	list := []Pos{at}
	for _, b := range []byte(text) {
		at.Col++
		if b == 10 {
			at.Line, at.Col = at.Line+1, 1
		}
		list = append(list, at)
	}
	return list
}

// far are numbers at the edges of an int.
func far() []int {
	return []int{math.MinInt, math.MinInt + 1, math.MinInt / 2, math.MinInt32, -7, -1, math.MaxInt32 - 1, math.MaxInt32, math.MaxInt / 2, math.MaxInt - 1, math.MaxInt}
}

// P4.1

func TestOf(t *testing.T) {
	for _, text := range texts() {
		list := positions(text)
		for place, want := range list {
			if p, ok := Of(text, place); p != want || !ok {
				t.Errorf("%q, %d: %v, %v", text, place, p, ok)
			}
		}
		for _, place := range append(far(), -2, len(text)+1, len(text)+2) {
			if p, ok := Of(text, place); p != (Pos{}) || ok {
				t.Errorf("%q has no place %d: %v, %v", text, place, p, ok)
			}
		}
	}
}

func TestPlace(t *testing.T) {
	for _, text := range texts() {
		list := positions(text)
		last := list[len(list)-1]
		for line := -2; line <= min(last.Line, 9)+2; line++ {
			for col := -2; col <= 12; col++ {
				want := slices.Index(list, Pos{line, col})
				if place, ok := Place(text, Pos{line, col}); place != max(want, 0) || ok != (want >= 0) {
					t.Errorf("%q, %d:%d: %d, %v", text, line, col, place, ok)
				}
			}
		}
		if place, ok := Place(text, last); place != len(text) || !ok {
			t.Errorf("%q, the last place: %d, %v", text, place, ok)
		}
		for _, p := range []Pos{{last.Line, last.Col + 1}, {last.Line + 1, 1}, {last.Line + 1, 0}, {0, last.Col}, {-last.Line, last.Col}} {
			noPlace(t, text, p)
		}
		for _, n := range far() {
			for _, p := range []Pos{{n, 1}, {1, n}, {last.Line, n}, {n, last.Col}, {n, n}, {n, -n}, {n, 0}, {0, n}} {
				noPlace(t, text, p)
			}
		}
	}
}

func noPlace(t *testing.T, text string, p Pos) {
	t.Helper()
	if place, ok := Place(text, p); place != 0 || ok {
		t.Errorf("%q has no place at %v: %d, %v", text, p, place, ok)
	}
}

func TestPlacesByHand(t *testing.T) {
	for _, x := range []struct {
		text  string
		place int
		at    Pos
	}{
		{"ab\nc", 0, Pos{1, 1}}, {"ab\nc", 2, Pos{1, 3}}, {"ab\nc", 3, Pos{2, 1}}, {"ab\nc", 4, Pos{2, 2}},
		{"", 0, Pos{1, 1}}, {"\n", 0, Pos{1, 1}}, {"\n", 1, Pos{2, 1}}, {"\n\n", 1, Pos{2, 1}}, {"\n\n", 2, Pos{3, 1}},
		{"a\n", 1, Pos{1, 2}}, {"a\n", 2, Pos{2, 1}}, {"a\r\nb", 2, Pos{1, 3}}, {"\u00e4b", 2, Pos{1, 3}}, {"\r", 1, Pos{1, 2}},
	} {
		if p, ok := Of(x.text, x.place); p != x.at || !ok {
			t.Errorf("%q, %d: %v, %v", x.text, x.place, p, ok)
		}
		if place, ok := Place(x.text, x.at); place != x.place || !ok {
			t.Errorf("%q, %v: %d, %v", x.text, x.at, place, ok)
		}
	}
	if p, ok := Of("ab\nc", 5); p != (Pos{}) || ok {
		t.Error(p, ok)
	}
	for _, p := range []Pos{{1, 4}, {1, 5}, {2, 3}, {3, 1}, {0, 1}, {1, 0}, {0, 0}} {
		noPlace(t, "ab\nc", p)
	}
	for _, p := range []Pos{{1, 2}, {2, 1}} {
		noPlace(t, "", p)
	}
}

func TestLines(t *testing.T) {
	for _, x := range []struct {
		text  string
		lines []string
	}{
		{"", []string{""}},
		{"\n", []string{"", ""}},
		{"\n\n\n", []string{"", "", "", ""}},
		{"a", []string{"a"}},
		{"a\n", []string{"a", ""}},
		{"\na", []string{"", "a"}},
		{"ab\nc", []string{"ab", "c"}},
		{"ab\n\n\ncd\n", []string{"ab", "", "", "cd", ""}},
		{"a\r\nb\r", []string{"a\r", "b\r"}},
		{"\xff\x00\n\u2028", []string{"\xff\x00", "\u2028"}},
	} {
		if l := Lines(x.text); !slices.Equal(l, x.lines) {
			t.Errorf("%q: %q", x.text, l)
		}
	}
}

func TestLinesMakeTheText(t *testing.T) { // of P4.4
	for _, text := range texts() {
		l := Lines(text)
		if strings.Join(l, "\n") != text || len(l) != strings.Count(text, "\n")+1 {
			t.Errorf("%q: %q", text, l)
		}
		for i, line := range l {
			if strings.Contains(line, "\n") {
				t.Errorf("%q: %q", text, l)
			}
			begin, isBegin := Place(text, Pos{i + 1, 1})
			end, isEnd := Place(text, Pos{i + 1, len(line) + 1})
			if !isBegin || !isEnd || text[begin:end] != line {
				t.Errorf("%q, line %d: from %d to %d", text, i+1, begin, end)
			}
		}
	}
}

func TestLongTexts(t *testing.T) {
	const many = 1 << 20
	for _, x := range []struct {
		text string
		last Pos
	}{
		{strings.Repeat("\n", many), Pos{many + 1, 1}},
		{strings.Repeat("a", many), Pos{1, many + 1}},
		{strings.Repeat("a\n", many/2), Pos{many/2 + 1, 1}},
	} {
		if p, ok := Of(x.text, many); p != x.last || !ok {
			t.Errorf("%v, %v", p, ok)
		}
		if place, ok := Place(x.text, x.last); place != many || !ok {
			t.Errorf("%d, %v", place, ok)
		}
		noPlace(t, x.text, Pos{math.MaxInt, 1})
		if l := Lines(x.text); len(l) != x.last.Line || strings.Join(l, "\n") != x.text {
			t.Errorf("%d lines", len(l))
		}
	}
}

// P4.4: Place takes back what Of tells, and the other way; positions come in the order of places.

func TestPlacesAndPositions(t *testing.T) {
	for _, text := range texts() {
		for a := range len(text) + 1 {
			p, _ := Of(text, a)
			if place, ok := Place(text, p); place != a || !ok {
				t.Errorf("%q, %d: %v, and back %d, %v", text, a, p, place, ok)
			}
			for b := max(a-9, 0); b <= min(a+9, len(text)); b++ {
				q, _ := Of(text, b)
				if got := Cmp(p, q); got != sign(a-b) {
					t.Errorf("%q, %d, %d: %v, %v, %d", text, a, b, p, q, got)
				}
			}
		}
	}
}

func sign(n int) int {
	switch {
	case n < 0:
		return -1
	case n > 0:
		return 1
	}
	return 0
}

// P4.2

func TestCmp(t *testing.T) {
	numbers := append(far(), 0, 1, 2, 3)
	slices.Sort(numbers)
	numbers = slices.Compact(numbers) // some may be the same, where an int is short
	var rising []Pos
	for _, line := range numbers {
		for _, col := range numbers {
			rising = append(rising, Pos{line, col})
		}
	}
	for i, a := range rising {
		for j, b := range rising {
			if got := Cmp(a, b); got != sign(i-j) {
				t.Errorf("%v, %v: %d", a, b, got)
			}
		}
	}
}

func TestFirst(t *testing.T) {
	a, b, c, d := Pos{2, 9}, Pos{3, 1}, Pos{3, 2}, Pos{10, 1}
	for i, x := range []struct {
		list []Fault
		want int // -1: none
	}{
		{nil, -1},
		{[]Fault{}, -1},
		{[]Fault{{}}, -1},
		{[]Fault{{At: a}}, -1},
		{[]Fault{{At: b}, {At: a}, {}}, -1},
		{[]Fault{{a, 80}}, 0},
		{[]Fault{{Pos{}, 80}}, 0},
		{[]Fault{{At: a}, {c, 80}}, 1},
		{[]Fault{{c, 80}, {At: a}}, 0},
		{[]Fault{{}, {d, 80}, {}}, 1},
		{[]Fault{{a, 80}, {b, 81}, {c, 82}, {d, 83}}, 0},
		{[]Fault{{d, 80}, {c, 81}, {b, 82}, {a, 83}}, 3},
		{[]Fault{{c, 80}, {b, 81}, {d, 82}}, 1},
		{[]Fault{{b, 81}, {b, 80}}, 0},
		{[]Fault{{b, 80}, {b, 81}}, 0},
		{[]Fault{{c, 1}, {b, 82}, {a, 0}, {b, 81}, {b, 82}}, 1},
		{[]Fault{{b, 0}, {b, 81}, {b, 82}}, 1},
		{[]Fault{{a, 50}, {Pos{}, 80}}, 1},
		{[]Fault{{a, 50}, {Pos{-1, 7}, -5}, {Pos{-1, 8}, 2}}, 1},
		{[]Fault{{Pos{math.MaxInt, math.MaxInt}, math.MaxInt}, {At: a}}, 0},
		{[]Fault{{Pos{math.MaxInt, 1}, 1}, {Pos{math.MinInt, 1}, math.MinInt}}, 1},
		{[]Fault{{Pos{1, math.MaxInt}, 1}, {Pos{1, math.MinInt}, 1}, {Pos{1, -1}, 1}}, 1},
	} {
		var want Fault
		if x.want >= 0 {
			want = x.list[x.want]
		}
		if f, ok := First(x.list...); f != want || ok != (x.want >= 0) {
			t.Errorf("%d: %v, %v", i, f, ok)
		}
	}
	if f, ok := First(); f != (Fault{}) || ok {
		t.Error(f, ok)
	}
}

// P4.3, and of P4.4 that what is told is read as it was.

func TestTexts(t *testing.T) {
	numbers := append(far(), 0, 1, 2, 9, 10, 11, 42, 80, 100, -9, -10, -99)
	for _, line := range numbers {
		for _, col := range numbers {
			p := Pos{line, col}
			told := strconv.Itoa(line) + ":" + strconv.Itoa(col)
			if got := p.Text(); got != told {
				t.Errorf("%v: %s", p, got)
			}
			if got, ok := Read(told); got != p || !ok {
				t.Errorf("%s: %v, %v", told, got, ok)
			}
			for _, e := range numbers {
				f := Fault{p, api.Errno(e)}
				told := told + " " + strconv.Itoa(e)
				if got := f.Text(); got != told {
					t.Errorf("%v: %s", f, got)
				}
				if got, ok := ReadFault(told); got != f || !ok {
					t.Errorf("%s: %v, %v", told, got, ok)
				}
			}
		}
	}
}

func TestTextsByHand(t *testing.T) {
	for s, f := range map[string]Fault{"3:7 80": {Pos{3, 7}, api.ErrParse}, "0:0 0": {}, "1:29 150": {Pos{1, 29}, api.ErrInput}, "-1:0 -5": {Pos{-1, 0}, -5}, "2:9 0": {At: Pos{2, 9}}} {
		if got := f.Text(); got != s {
			t.Errorf("%v: %s", f, got)
		}
		if got, ok := ReadFault(s); got != f || !ok {
			t.Errorf("%s: %v, %v", s, got, ok)
		}
		at, _, _ := strings.Cut(s, " ")
		if got, ok := Read(at); got != f.At || !ok || f.At.Text() != at {
			t.Errorf("%s: %v, %v", at, got, ok)
		}
	}
}

// isDigits are those of numbers whose size does not matter.
const isDigits = `(0|-?[1-9][0-9]*)`

func TestShortTextsAreReadAsTheyAreTold(t *testing.T) {
	position := regexp.MustCompile(`\A` + isDigits + `:` + isDigits + `\z`)
	fault := regexp.MustCompile(`\A` + isDigits + `:` + isDigits + ` ` + isDigits + `\z`)
	for _, s := range words("0-7: +\nx", 6) {
		if p, ok := Read(s); ok != position.MatchString(s) || ok && p.Text() != s || !ok && p != (Pos{}) {
			t.Errorf("%q: %v, %v", s, p, ok)
		}
		if f, ok := ReadFault(s); ok != fault.MatchString(s) || ok && f.Text() != s || !ok && f != (Fault{}) {
			t.Errorf("%q: %v, %v", s, f, ok)
		}
	}
}

// noNumbers are texts that are no number of an int, in its own digits.
func noNumbers() []string {
	past := new(big.Int).Add(big.NewInt(math.MaxInt), big.NewInt(1)).String()
	below := new(big.Int).Sub(big.NewInt(math.MinInt), big.NewInt(1)).String()
	return []string{past, below, "-" + past + "0", "9223372036854775808", "-9223372036854775809", "18446744073709551615", "18446744073709551616", "18446744073709551617", "4294967296000000000000000000",
		strings.Repeat("9", 1000), "-" + strings.Repeat("9", 1000), strings.Repeat("0", 1000) + "1",
		"", "-", "--1", "-0", "+0", "+1", "+", "00", "01", "-01", "007", "- 1", " 1", "1 ", "\t1", "1\t", "\n1", "1\n", "1\r", "1\x00", "\x001", "\xff", "1\xff", "x", "1x", "x1", "-x", "1_0", "0x1", "1e1", "1.0", "1,0", "1:", ":1", "1-", "\u0661", "\uff11", "\u22121", "\u00a01"}
}

func TestTextsThatTellNone(t *testing.T) {
	for _, x := range noNumbers() {
		for _, s := range []string{x + ":4", "3:" + x, x + ":" + x} {
			noPosition(t, s)
			noFault(t, s+" 80")
		}
		noFault(t, "3:4 "+x)
	}
	for _, s := range []string{"", "3", "3:", ":3", ":", "3:4:5", "3:4:", ":3:4", "3::4", "3: 4", "3 :4", " 3:4", "3:4 ", "3:4\n", "3:4 5", "3;4", "3-4", "3 4", "3\uff1a4", "line 3:4"} {
		noPosition(t, s)
	}
	for _, s := range []string{"", " ", "3:4", "3:4 ", " 80", "3:4  5", " 3:4 5", "3:4 5 ", "3:4 5 6", "3:4 5\n", "3:4\t5", "3:4\n5", "3:4\u00a05", "3 4:5", "3 4 5", "3:4:5", "80 3:4", "3: 80", ":4 80", "3 80", "3:4 :5", "3:4 5:6", "3:4 80 parse"} {
		noFault(t, s)
	}
}

func noPosition(t *testing.T, s string) {
	t.Helper()
	if p, ok := Read(s); p != (Pos{}) || ok {
		t.Errorf("%q tells no position: %v, %v", s, p, ok)
	}
}

func noFault(t *testing.T, s string) {
	t.Helper()
	if f, ok := ReadFault(s); f != (Fault{}) || ok {
		t.Errorf("%q tells no fault: %v, %v", s, f, ok)
	}
}

// What was handed in stays, and what was answered may be written over.

func TestLinesAreNew(t *testing.T) {
	for _, text := range texts() {
		first, second := Lines(text), Lines(text)
		want := slices.Clone(first)
		over := first[:cap(first)]
		for i := range over {
			over[i] = "written over"
		}
		if again := Lines(text); !slices.Equal(second, want) || !slices.Equal(again, want) {
			t.Errorf("%q: %q, %q", text, second, again)
		}
	}
}

func TestFaultsAreOnlyRead(t *testing.T) {
	row := []Fault{{Pos{5, 1}, 1}, {At: Pos{1, 1}}, {Pos{2, 2}, 2}, {Pos{2, 2}, 3}, {Pos{4, 4}, 4}, {Pos{1, 1}, 5}, {Pos{9, 9}, 6}}
	before := slices.Clone(row)
	for until := range len(row) + 1 { // behind the list's length there are faults, too
		first, ok := First(row[:until]...)
		if !slices.Equal(row, before) {
			t.Fatalf("%d: the row is now %v", until, row)
		}
		want := first
		for i := range row {
			row[i] = Fault{Pos{0, 0}, 77}
		}
		if first != want {
			t.Errorf("%d: %v hangs on the row", until, first)
		}
		copy(row, before)
		if again, is := First(row[:until]...); again != want || is != ok {
			t.Errorf("%d: %v, %v, and was %v, %v", until, again, is, want, ok)
		}
	}
}

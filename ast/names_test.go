package ast

import (
	"reflect"
	"slices"
	"strconv"
	"strings"
	"testing"
	"unsafe"
)

// wanted are the names that a list of statements uses so, as they stand in its outline from left to right: of
// expressions of kinds 1 and 2 (r), of statements of kinds 0 and 1 (w), of those of kind 5 (c).
func wanted(l []Stmt, letter byte) []string {
	var names []string
	words := strings.Fields(outlines(l, outlineStmt))
	for i, w := range words {
		use, name := byte(0), 0
		switch w {
		case "(E1", "(E2":
			use, name = 'r', i+2
		case "(S0", "(S1":
			use, name = 'w', i+1
		case "(S5":
			use, name = 'c', i+1
		}
		if use != letter {
			continue
		}
		s, _ := strconv.Unquote(words[name])
		if !slices.Contains(names, s) {
			names = append(names, s)
		}
	}
	return names
}

// checkNames holds what a program's statements name against its outline, and against what each of them names alone.
func checkNames(t *testing.T, p Program) {
	t.Helper()
	l := slices.Clone(p.Main)
	for _, d := range p.Decls {
		l = append(l, d.Body...)
	}
	for i, u := range []func(...Stmt) []string{Reads, Writes, Calls} {
		got := u(l...)
		if want := wanted(l, "rwc"[i]); !slices.Equal(got, want) {
			t.Errorf("%c: %q; want %q: %s", "rwc"[i], got, want, outlines(l, outlineStmt))
		}
		var each []string
		for _, s := range l {
			each = append(each, u(s)...)
		}
		if want := firsts(each); !slices.Equal(got, want) {
			t.Errorf("%c: %q; one by one %q", "rwc"[i], got, want)
		}
	}
}

func firsts(l []string) []string {
	var out []string
	for _, s := range l {
		if !slices.Contains(out, s) {
			out = append(out, s)
		}
	}
	return out
}

// P6.3: what statements name, by hand.
func TestNames(t *testing.T) {
	i, x, y := variable("i"), variable("x"), variable("y")
	for n, row := range []struct {
		l    []Stmt
		want string
	}{
		{nil, "; ; "}, {statements(Stmt{Kind: Skip}), "; ; "}, {statements(call("f")), "; ; f"}, {statements(output(num(1))), "; ; "},
		{statements(store("a", i, binary(Add, x, num(1)))), "i x; a; "},
		{statements(store("a", x, binary(Add, i, x))), "x i; a; "}, {statements(store("a", index("a", x), index("b", index("a", y)))), "a x b y; a; "},
		{statements(assign("x", binary(Add, x, x))), "x; x; "}, {statements(assign("x", index("x", y)), assign("y", x), assign("x", num(1))), "x y; x y; "},
		{statements(call("f", x, x, y, x), call("g", y), call("f", i)), "x y i; ; f g"},
		{statements(either(x, statements(assign("u", y), call("f")), statements(assign("v", i), call("g")))), "x y i; u v; f g"},
		{statements(either(y, statements(assign("u", y), call("f", y)), statements(assign("u", y), call("f", y))), assign("u", y)), "y; u; f"},
		{statements(while(binary(Lt, i, x), assign("i", binary(Add, i, y))), output(x)), "i x y; i; "},
		{statements(output(unary(Neg, unary(Not, binary(Or, y, index("x", binary(Mul, x, i))))))), "y x i; ; "},
		{statements(either(num(1), nil, statements(while(num(1), either(x, statements(store("x", y, i), call("x")), nil))))), "x y i; x; x"},
		{statements(call("x", x), assign("x", x)), "x; x; x"}, {statements(assign("y", num(0)), assign("x", num(0)), store("y", num(0), num(0))), "; y x; "},
		// of what is not right: what kinds do is done, parts are all gone through, names are told as they are
		{statements(Stmt{Kind: Skip, Name: "u", Exprs: []Expr{x}, Then: statements(assign("v", y)), Else: statements(call("w"))}), "x y; v; w"},
		{statements(Stmt{Kind: 7, Name: "u", Exprs: []Expr{x}}, Stmt{Kind: -1, Name: "u"}), "x; ; "},
		{statements(output(Expr{Kind: Num, Name: "u", Args: []Expr{x}}, Expr{Kind: Unary, Name: "u"}, Expr{Kind: -1, Name: "u", Args: []Expr{y}})), "x y; ; "},
		{statements(assign("if", variable("1"), x), store("a2345678901234567890123456789012b")), "1 x; if a2345678901234567890123456789012b; "},
	} {
		got := texts3(strings.Join(Reads(row.l...), " "), strings.Join(Writes(row.l...), " "), strings.Join(Calls(row.l...), " "))
		if got != row.want {
			t.Errorf("%d: %s; want %s", n, got, row.want)
		}
		checkNames(t, mainOf(row.l...))
	}
	if Reads() != nil || Writes() != nil || Calls() != nil || len(Reads([]Stmt{}...)) != 0 {
		t.Error("nothing")
	}
	if l := Reads(output(variable(""), variable(""))); !slices.Equal(l, []string{""}) {
		t.Errorf("%q", l)
	}
}

// P6.3, P6.4: what is handed in is only read, and rows of names are new each time.
func TestNamesNew(t *testing.T) {
	bytes := []byte("xyf")
	x, y, f := unsafe.String(&bytes[0], 1), unsafe.String(&bytes[1], 1), unsafe.String(&bytes[2], 1)
	e := []Expr{variable(x), index(y, variable(x)), variable("behind")}[:2]
	l := []Stmt{{Kind: Call, Name: f, Exprs: e}, {Kind: If, Then: []Stmt{assign(y, e...), store(x), assign("behind")}[:2]}, assign("behind")}[:2]
	before := outlines(l[:3], outlineStmt)
	rows := [][]string{Reads(l...), Writes(l...), Calls(l...)}
	again := [][]string{Reads(l...), Writes(l...), Calls(l...)}
	want := [][]string{{"x", "y"}, {"y", "x"}, {"f"}}
	if outlines(l[:3], outlineStmt) != before || e[:3][2].Name != "behind" || l[1].Then[:3][2].Name != "behind" || string(bytes) != "xyf" {
		t.Fatal("what was handed in is written over")
	}
	for i := range again { // and what is answered is
		for j := range again[i][:cap(again[i])] {
			again[i][:cap(again[i])][j] = "?"
		}
	}
	if outlines(l[:3], outlineStmt) != before || !reflect.DeepEqual(rows, want) {
		t.Errorf("%q", rows)
	}
	copy(bytes, "???")
	clear(e)
	clear(l[1].Then)
	clear(l)
	if !reflect.DeepEqual(rows, want) {
		t.Errorf("%q hang on what was handed in", rows)
	}
}

// P6.3: what is ranged over may be left wherever one likes, and gone over again.
func TestUsesLeft(t *testing.T) {
	l := allKinds().Main
	n := 0
	for range uses(l) {
		n++
	}
	for stop := range n + 1 {
		for range 2 {
			met := 0
			for range uses(l) {
				if met == stop {
					break
				}
				met++
			}
			if met != stop {
				t.Errorf("left at %d, not at %d", met, stop)
			}
		}
	}
	if n != 12 {
		t.Errorf("%d uses", n)
	}
}

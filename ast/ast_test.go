package ast

import (
	"math"
	"reflect"
	"slices"
	"strconv"
	"strings"
	"testing"
	"unsafe"

	"sieveholes/pos"
)

// What trees are is held against their outlines: texts in which each tree stands in round brackets, with all its parts
// but its position.

func outlineExpr(e Expr) string {
	s := "(E" + strconv.Itoa(int(e.Kind)) + " " + strconv.FormatInt(e.N, 10) + " " + strconv.Quote(e.Name) + " " + strconv.Itoa(int(e.Op))
	return s + outlines(e.Args, outlineExpr) + ")"
}

func outlineStmt(s Stmt) string {
	return "(S" + strconv.Itoa(int(s.Kind)) + " " + strconv.Quote(s.Name) + outlines(s.Exprs, outlineExpr) + outlines(s.Then, outlineStmt) + outlines(s.Else, outlineStmt) + ")"
}

func outlineDecl(d Decl) string {
	s := "(D" + strconv.Itoa(int(d.Kind)) + " " + strconv.Quote(d.Name)
	for _, n := range []int64{d.Lo, d.Hi, d.Size} {
		s += " " + strconv.FormatInt(n, 10)
	}
	return s + outlines(d.Params, strconv.Quote) + outlines(d.Body, outlineStmt) + ")"
}

func outline(p Program) string {
	return outlines(p.Decls, outlineDecl) + outlines(p.Main, outlineStmt)
}

func outlines[T any](l []T, one func(T) string) string {
	var b strings.Builder
	for _, x := range l {
		b.WriteString(" " + one(x))
	}
	return " [" + b.String() + " ]"
}

// nested tells how many round brackets an outline has, and how deep they stand. (Names of these tests have none.)
func nested(outline string) (count, depth int) {
	open := 0
	for _, r := range outline {
		switch r {
		case '(':
			count, open = count+1, open+1
			depth = max(depth, open)
		case ')':
			open--
		}
	}
	return count, depth
}

// partRows are the parts of each kind; a digit behind one tells how many there are of it, and of an operator how many
// operands it has.
var partRows = map[reflect.Type][]string{
	reflect.TypeFor[Expr](): {"N", "Name", "Name Args1", "Op1 Args1", "Op2 Args2"},
	reflect.TypeFor[Stmt](): {"Name Exprs1", "Name Exprs2", "Exprs1 Then Else", "Exprs1 Then", "Exprs1", "Name Exprs", ""},
	reflect.TypeFor[Decl](): {"Name Lo Hi", "Name Lo Hi", "Name", "Name Size", "Name Params Body"},
}

// patternRight tells whether a tree, or a list of them, has just the parts that it may have.
func patternRight(v reflect.Value) bool {
	if v.Kind() == reflect.Slice {
		for i := range v.Len() {
			if !patternRight(v.Index(i)) {
				return false
			}
		}
		return true
	}
	if v.Kind() == reflect.String {
		return wordPattern.MatchString(v.String()) && !keyPattern.MatchString(v.String())
	}
	if v.Type() == reflect.TypeFor[Program]() {
		return patternRight(v.Field(0)) && patternRight(v.Field(1))
	}
	kind, rows := v.FieldByName("Kind").Int(), partRows[v.Type()]
	if kind < 0 || kind >= int64(len(rows)) {
		return false
	}
	for i := range v.NumField() {
		name := v.Type().Field(i).Name
		if name != "Kind" && name != "At" && !partRight(name, v.Field(i), strings.Fields(rows[kind])) {
			return false
		}
	}
	return true
}

func partRight(name string, v reflect.Value, row []string) bool {
	for _, part := range row {
		if part[:len(part)-1] == name && part[len(part)-1] <= '2' {
			operands := int(part[len(part)-1] - '0')
			if name == "Op" {
				return v.Int() >= 0 && v.Int() <= 20 && (operands == 1) == (v.Int() >= 18)
			}
			return v.Len() == operands && patternRight(v)
		}
		if part != name {
			continue
		}
		switch name {
		case "N", "Size":
			return v.Int() >= 0 || v.Int() == -1<<63
		case "Lo", "Hi":
			return true
		}
		return patternRight(v)
	}
	return v.IsZero() || v.Kind() == reflect.Slice && v.Len() == 0
}

// checkTree holds all that is asked of one program against its outline.
func checkTree(t *testing.T, p Program) {
	t.Helper()
	o := outline(p)
	size, depth := nested(o)
	if Size(p) != size || Depth(p) != depth || Depth(p) > Size(p) {
		t.Errorf("size %d, depth %d; want %d, %d: %s", Size(p), Depth(p), size, depth, o)
	}
	right := patternRight(reflect.ValueOf(p))
	if Right(p) != right {
		t.Errorf("right: %t: %s", !right, o)
	}
	c := Copy(p)
	if !reflect.DeepEqual(withoutEmpty(c), withoutEmpty(p)) {
		t.Errorf("a copy: %s; of %s", outline(c), o)
	}
	if !Same(c, p) || Right(c) != right || Size(c) != size || Depth(c) != depth {
		t.Errorf("a copy is not: %s", o)
	}
	checkNames(t, p)
}

// withoutEmpty is the same program, whose empty lists are nil.
func withoutEmpty(p Program) Program {
	var clear func(v reflect.Value) reflect.Value
	clear = func(v reflect.Value) reflect.Value {
		n := reflect.New(v.Type()).Elem()
		switch v.Kind() {
		case reflect.Slice:
			for i := range v.Len() {
				n = reflect.Append(n, clear(v.Index(i)))
			}
		case reflect.Struct:
			for i := range v.NumField() {
				n.Field(i).Set(clear(v.Field(i)))
			}
		default:
			return v
		}
		return n
	}
	return clear(reflect.ValueOf(p)).Interface().(Program)
}

// These are short for trees.
func num(n int64) Expr                { return Expr{Kind: Num, N: n} }
func variable(s string) Expr          { return Expr{Kind: Var, Name: s} }
func index(s string, e ...Expr) Expr  { return Expr{Kind: Index, Name: s, Args: e} }
func unary(o Op, e ...Expr) Expr      { return Expr{Kind: Unary, Op: o, Args: e} }
func binary(o Op, e ...Expr) Expr     { return Expr{Kind: Binary, Op: o, Args: e} }
func assign(s string, e ...Expr) Stmt { return Stmt{Kind: Assign, Name: s, Exprs: e} }
func store(s string, e ...Expr) Stmt  { return Stmt{Kind: Store, Name: s, Exprs: e} }
func while(e Expr, l ...Stmt) Stmt    { return Stmt{Kind: While, Exprs: []Expr{e}, Then: l} }
func output(e ...Expr) Stmt           { return Stmt{Kind: Output, Exprs: e} }
func call(s string, e ...Expr) Stmt   { return Stmt{Kind: Call, Name: s, Exprs: e} }
func either(e Expr, then, otherwise []Stmt) Stmt {
	return Stmt{Kind: If, Exprs: []Expr{e}, Then: then, Else: otherwise}
}

func alone(e Expr) Program        { return Program{Main: []Stmt{output(e)}} }
func mainOf(l ...Stmt) Program    { return Program{Main: l} }
func declared(l ...Decl) Program  { return Program{Decls: l} }
func statements(l ...Stmt) []Stmt { return l }
func at(line, col int) pos.Pos    { return pos.Pos{Line: line, Col: col} }
func procedure(l ...Stmt) Decl {
	return Decl{Kind: Proc, Name: "f", Params: []string{"n", "m"}, Body: l}
}
func texts3(a, b, c string) string { return a + "; " + b + "; " + c }

// allKinds is a right program with all kinds of trees, with positions.
func allKinds() Program {
	x := index("a", variable("i"))
	x.At = at(3, 4)
	return Program{
		Decls: []Decl{
			{Kind: Public, Name: "p", Lo: -3, Hi: 3, At: at(1, 1)},
			{Kind: Secret, Name: "s", Lo: math.MinInt64, Hi: math.MaxInt64, At: at(2, 1)},
			{Kind: Scalar, Name: "i", At: at(3, 1)},
			{Kind: Array, Name: "a", Size: 4, At: at(4, 1)},
			{Kind: Proc, Name: "f", Params: []string{"n", "m"}, Body: []Stmt{output(binary(Mul, num(2), variable("n")))}, At: at(5, 1)},
			{Kind: Proc, Name: "g"},
		},
		Main: []Stmt{
			while(binary(Lt, variable("i"), variable("s")),
				store("a", variable("i"), binary(Add, x, num(1))),
				either(unary(Not, variable("p")), statements(call("f", variable("i"), num(0))), statements(assign("i", num(7))))),
			either(variable("i"), nil, nil), call("g"), {Kind: Skip, At: at(9, 9)},
		},
	}
}

// visit is told each part that is no list of trees, one after the other; what it changes is changed in the program.
func visit(v reflect.Value, each func(part reflect.Value)) {
	switch v.Kind() {
	case reflect.Slice:
		each(v)
		for i := range v.Len() {
			visit(v.Index(i), each)
		}
	case reflect.Struct:
		for i := range v.NumField() {
			visit(v.Field(i), each)
		}
	default:
		each(v)
	}
}

// others are values that a part may be changed to.
func others(part reflect.Value) []any {
	switch part.Interface().(type) {
	case string:
		return []any{"", "x", "if", "1x", "a2345678901234567890123456789012", "a23456789012345678901234567890123"}
	case int64:
		return []any{int64(0), int64(1), int64(-1), int64(math.MinInt64), int64(math.MinInt64 + 1), int64(math.MaxInt64)}
	case Op:
		return []any{Or, And, Rem, Neg, Not, Inv, Op(-1), Op(21), Op(math.MinInt), Op(math.MaxInt)}
	case ExprKind:
		return []any{Num, Var, Index, Unary, Binary, ExprKind(-1), ExprKind(5), ExprKind(math.MinInt), ExprKind(math.MaxInt)}
	case StmtKind:
		return []any{Assign, Store, If, While, Output, Call, Skip, StmtKind(-1), StmtKind(7), StmtKind(math.MinInt), StmtKind(math.MaxInt)}
	case DeclKind:
		return []any{Public, Secret, Scalar, Array, Proc, DeclKind(-1), DeclKind(5), DeclKind(math.MinInt), DeclKind(math.MaxInt)}
	case []string:
		return []any{[]string(nil), []string{}, []string{"x"}, []string{"x", "x", "y"}, []string{"m", "n"}, []string{"n", "var"}, []string{""}}
	case []Expr:
		return []any{[]Expr(nil), []Expr{}, []Expr{num(1)}, []Expr{num(-1)}, []Expr{num(1), variable("x")}, []Expr{{}, {}, {}}}
	case []Stmt:
		return []any{[]Stmt(nil), []Stmt{}, statements(Stmt{Kind: Skip}), statements(assign("x"), Stmt{Kind: Skip})}
	case []Decl:
		return []any{[]Decl(nil), []Decl{}, []Decl{{Kind: Scalar, Name: "x"}}, []Decl{{}}}
	}
	return []any{-1, 0, 1, 77} // of positions
}

// P6.2, P6.3, P6.5: of a program with all kinds of trees each single part is changed, and lists are emptied and filled.
func TestEachPart(t *testing.T) {
	p, q := allKinds(), allKinds()
	if !Right(p) {
		t.Fatal("the program is not right")
	}
	checkTree(t, p)
	parts, same, right := 0, 0, 0
	visit(reflect.ValueOf(&q).Elem(), func(part reflect.Value) {
		parts++
		was := reflect.New(part.Type()).Elem()
		was.Set(part)
		for _, other := range others(part) {
			part.Set(reflect.ValueOf(other))
			checkTree(t, q)
			want := outline(p) == outline(q)
			if Same(p, q) != want || Same(q, p) != want {
				t.Errorf("same: %t: %s", !want, outline(q))
			}
			if want {
				same++
			}
			if Right(q) {
				right++
			}
		}
		part.Set(was)
	})
	if outline(p) != outline(q) || parts < 200 || same < 100 || right < 100 {
		t.Error(parts, same, right)
	}
}

// P6.2: each kind of tree, right, and with each of its parts wrong, by hand.
func TestRight(t *testing.T) {
	one, s := num(1), Stmt{Kind: Skip}
	rows := []struct {
		p    Program
		want bool
	}{
		{Program{}, true}, {Program{Decls: []Decl{}, Main: []Stmt{}}, true},

		{alone(num(0)), true}, {alone(num(math.MaxInt64)), true}, {alone(num(math.MinInt64)), true},
		{alone(num(-1)), false}, {alone(num(math.MinInt64 + 1)), false},
		{alone(Expr{Kind: Num, Name: "x"}), false}, {alone(Expr{Kind: Num, Op: And}), false}, {alone(Expr{Kind: Num, Args: []Expr{one}}), false},
		{alone(Expr{Kind: Num, Args: []Expr{}, At: at(-7, 0)}), true},

		{alone(variable("x")), true}, {alone(variable("If")), true}, {alone(variable("if")), false}, {alone(variable("")), false}, {alone(variable("1")), false},
		{alone(variable("x234567890123456789012345678901b")), true}, {alone(variable("x234567890123456789012345678901bc")), false},
		{alone(Expr{Kind: Var, Name: "x", N: 1}), false}, {alone(Expr{Kind: Var, Name: "x", Op: Add}), false}, {alone(Expr{Kind: Var, Name: "x", Args: []Expr{one}}), false},

		{alone(index("a", one)), true}, {alone(index("a")), false}, {alone(index("a", one, one)), false}, {alone(index("in", one)), false},
		{alone(index("a", num(-1))), false}, {alone(Expr{Kind: Index, Name: "a", Op: Neg, Args: []Expr{one}}), false}, {alone(Expr{Kind: Index, Name: "a", N: -1 << 63, Args: []Expr{one}}), false},

		{alone(unary(Neg, one)), true}, {alone(unary(Not, one)), true}, {alone(unary(Inv, one)), true},
		{alone(unary(Sub, one)), false}, {alone(unary(Or, one)), false}, {alone(unary(Rem, one)), false}, {alone(unary(-1, one)), false}, {alone(unary(21, one)), false},
		{alone(unary(Neg)), false}, {alone(unary(Neg, one, one)), false}, {alone(unary(Neg, num(-5))), false},
		{alone(Expr{Kind: Unary, Op: Neg, Name: "x", Args: []Expr{one}}), false}, {alone(Expr{Kind: Unary, Op: Neg, N: 1, Args: []Expr{one}}), false},

		{alone(binary(Or, one, one)), true}, {alone(binary(Sub, one, one)), true}, {alone(binary(Rem, one, one)), true},
		{alone(binary(Neg, one, one)), false}, {alone(binary(Inv, one, one)), false}, {alone(binary(-1, one, one)), false}, {alone(binary(21, one, one)), false},
		{alone(binary(Add, one)), false}, {alone(binary(Add, one, one, one)), false}, {alone(binary(Add)), false}, {alone(binary(Add, one, num(-1))), false}, {alone(binary(Add, num(-1), one)), false},
		{alone(Expr{Kind: Binary, Op: Add, Name: "x", Args: []Expr{one, one}}), false}, {alone(Expr{Kind: Binary, Op: Add, N: 1, Args: []Expr{one, one}}), false},
		{alone(Expr{Kind: 5}), false}, {alone(Expr{Kind: -1}), false},

		{mainOf(assign("x", one)), true}, {mainOf(assign("x")), false}, {mainOf(assign("x", one, one)), false}, {mainOf(assign("main", one)), false}, {mainOf(assign("", one)), false},
		{mainOf(assign("x", num(-1))), false}, {mainOf(Stmt{Kind: Assign, Name: "x", Exprs: []Expr{one}, Then: statements(s)}), false}, {mainOf(Stmt{Kind: Assign, Name: "x", Exprs: []Expr{one}, Else: statements(s)}), false},
		{mainOf(store("a", one, one)), true}, {mainOf(store("a", one)), false}, {mainOf(store("a", one, one, one)), false}, {mainOf(store("else", one, one)), false}, {mainOf(store("a", one, num(-2))), false},
		{mainOf(Stmt{Kind: Store, Name: "a", Exprs: []Expr{one, one}, Then: statements(s)}), false},
		{mainOf(either(one, nil, nil)), true}, {mainOf(either(one, statements(s), statements(s, s))), true}, {mainOf(either(one, nil, statements(s))), true},
		{mainOf(either(num(-1), nil, nil)), false}, {mainOf(either(one, statements(assign("x")), nil)), false}, {mainOf(either(one, nil, statements(assign("x")))), false},
		{mainOf(Stmt{Kind: If}), false}, {mainOf(Stmt{Kind: If, Exprs: []Expr{one, one}}), false}, {mainOf(Stmt{Kind: If, Name: "x", Exprs: []Expr{one}}), false},
		{mainOf(while(one)), true}, {mainOf(while(one, s, s)), true}, {mainOf(while(one, Stmt{Kind: 7})), false}, {mainOf(Stmt{Kind: While, Exprs: []Expr{one}, Else: statements(s)}), false},
		{mainOf(Stmt{Kind: While, Then: statements(s)}), false}, {mainOf(Stmt{Kind: While, Name: "x", Exprs: []Expr{one}}), false},
		{mainOf(output(one)), true}, {mainOf(output()), false}, {mainOf(output(one, one)), false}, {mainOf(Stmt{Kind: Output, Name: "x", Exprs: []Expr{one}}), false}, {mainOf(Stmt{Kind: Output, Exprs: []Expr{one}, Then: statements(s)}), false},
		{mainOf(call("f")), true}, {mainOf(call("f", one)), true}, {mainOf(call("f", one, one, one, one)), true}, {mainOf(call("call")), false}, {mainOf(call("f", one, num(-1))), false},
		{mainOf(Stmt{Kind: Call, Name: "f", Then: statements(s)}), false}, {mainOf(Stmt{Kind: Call, Name: "f", Else: statements(s)}), false},
		{mainOf(s), true}, {mainOf(Stmt{Kind: Skip, Name: "x"}), false}, {mainOf(Stmt{Kind: Skip, Exprs: []Expr{one}}), false}, {mainOf(Stmt{Kind: Skip, Then: statements(s)}), false}, {mainOf(Stmt{Kind: Skip, Else: statements(s)}), false},
		{mainOf(s, Stmt{Kind: 7}), false}, {mainOf(Stmt{Kind: -1}, s), false},

		{declared(Decl{Kind: Public, Name: "p"}), true}, {declared(Decl{Kind: Public, Name: "p", Lo: 3, Hi: -3}), true}, {declared(Decl{Kind: Public, Name: "public"}), false}, {declared(Decl{Kind: Public}), false},
		{declared(Decl{Kind: Public, Name: "p", Size: 1}), false}, {declared(Decl{Kind: Public, Name: "p", Params: []string{"x"}}), false}, {declared(Decl{Kind: Public, Name: "p", Body: statements(s)}), false},
		{declared(Decl{Kind: Secret, Name: "s", Lo: math.MinInt64, Hi: math.MaxInt64}), true}, {declared(Decl{Kind: Secret, Name: "9", Hi: 1}), false}, {declared(Decl{Kind: Secret, Name: "s", Size: 1}), false},
		{declared(Decl{Kind: Scalar, Name: "v"}), true}, {declared(Decl{Kind: Scalar, Name: "var"}), false}, {declared(Decl{Kind: Scalar, Name: "v", Lo: 1}), false}, {declared(Decl{Kind: Scalar, Name: "v", Hi: 1}), false}, {declared(Decl{Kind: Scalar, Name: "v", Size: 1}), false},
		{declared(Decl{Kind: Array, Name: "a"}), true}, {declared(Decl{Kind: Array, Name: "a", Size: math.MaxInt64}), true}, {declared(Decl{Kind: Array, Name: "a", Size: math.MinInt64}), true}, {declared(Decl{Kind: Array, Name: "a", Size: -1}), false},
		{declared(Decl{Kind: Array, Name: "array", Size: 1}), false}, {declared(Decl{Kind: Array, Name: "a", Size: 1, Lo: 1}), false}, {declared(Decl{Kind: Array, Name: "a", Size: 1, Hi: -1}), false}, {declared(Decl{Kind: Array, Name: "a", Size: 1, Params: []string{"x"}}), false},
		{declared(procedure()), true}, {declared(procedure(s, s)), true}, {declared(procedure(s, assign("x"))), false}, {declared(Decl{Kind: Proc, Name: "f"}), true}, {declared(Decl{Kind: Proc, Name: "proc"}), false},
		{declared(Decl{Kind: Proc, Name: "f", Params: []string{"f", "f"}}), true}, {declared(Decl{Kind: Proc, Name: "f", Params: []string{"x", "while"}}), false}, {declared(Decl{Kind: Proc, Name: "f", Params: []string{""}}), false},
		{declared(Decl{Kind: Proc, Name: "f", Lo: 1}), false}, {declared(Decl{Kind: Proc, Name: "f", Size: 1}), false},
		{declared(Decl{Kind: 5, Name: "x"}), false}, {declared(Decl{Kind: -1, Name: "x"}), false}, {declared(Decl{Kind: Scalar, Name: "x"}, Decl{Kind: Scalar, Name: "x"}), true},
	}
	for _, row := range rows {
		if Right(row.p) != row.want {
			t.Errorf("right: %t: %s", !row.want, outline(row.p))
		}
		checkTree(t, row.p)
		// wherever it stands
		deeper := mainOf(either(one, statements(while(one, row.p.Main...)), nil), either(one, nil, row.p.Main))
		deeper.Decls = append(row.p.Decls[:len(row.p.Decls):len(row.p.Decls)], procedure(row.p.Main...))
		if Right(deeper) != row.want {
			t.Errorf("deeper right: %t: %s", !row.want, outline(row.p))
		}
		for _, other := range rows {
			if want := outline(row.p) == outline(other.p); Same(row.p, other.p) != want {
				t.Errorf("same: %t: %s and %s", !want, outline(row.p), outline(other.p))
			}
		}
	}
}

// P6.2: sizes and depths, by hand.
func TestSizeDepth(t *testing.T) {
	x, s := variable("x"), Stmt{Kind: Skip}
	for i, row := range []struct {
		p           Program
		size, depth int
	}{
		{Program{}, 0, 0}, {mainOf(s), 1, 1}, {mainOf(s, s, s), 3, 1}, {declared(Decl{Kind: Scalar, Name: "x"}), 1, 1},
		{mainOf(store("a", variable("i"), binary(Add, x, num(1)))), 5, 3},
		{alone(x), 2, 2}, {alone(unary(Neg, unary(Neg, x))), 4, 4}, {alone(binary(Add, x, unary(Neg, index("a", x)))), 6, 5}, {alone(binary(Add, unary(Neg, index("a", x)), x)), 6, 5},
		{mainOf(either(x, nil, nil)), 2, 2}, {mainOf(either(x, statements(s), nil)), 3, 2}, {mainOf(either(x, nil, statements(s))), 3, 2},
		{mainOf(either(x, statements(s), statements(while(x, s)))), 6, 3}, {mainOf(either(x, statements(while(x, s)), statements(s))), 6, 3}, {mainOf(either(unary(Not, unary(Not, x)), statements(s), statements(s))), 6, 4},
		{declared(procedure()), 1, 1}, {declared(procedure(s)), 2, 2}, {declared(procedure(output(x), s)), 4, 3},
		{Program{Decls: []Decl{procedure(output(x))}, Main: statements(s)}, 4, 3}, {Program{Decls: []Decl{procedure()}, Main: statements(output(x))}, 3, 2},
		{mainOf(call("f", x, unary(Neg, x))), 4, 3}, {mainOf(call("f")), 1, 1}, {mainOf(while(x, while(x, while(x)))), 6, 4},
		// of trees that are not right all parts count, too
		{mainOf(Stmt{Kind: Skip, Exprs: []Expr{{Kind: Num, Args: []Expr{x}}}, Then: statements(s), Else: statements(s, s)}), 6, 3},
		{declared(Decl{Kind: Scalar, Body: statements(s)}), 2, 2}, {alone(Expr{Kind: -1, Args: []Expr{x, x, x}}), 5, 3},
	} {
		if Size(row.p) != row.size || Depth(row.p) != row.depth {
			t.Errorf("%d: %d, %d; want %d, %d", i, Size(row.p), Depth(row.p), row.size, row.depth)
		}
		checkTree(t, row.p)
	}
}

// P6.2: SameExpr, for all pairs.
func TestSameExpr(t *testing.T) {
	x, moved := variable("x"), variable("x")
	moved.At = at(5, 5)
	l := []Expr{{}, num(1), num(-1), x, variable("y"), variable(""), moved, index("a", x), index("a", moved), index("a", num(0)), index("b", x), index("a"), index("a", x, x),
		unary(Neg, x), unary(Not, x), unary(Neg, num(0)), binary(Add, x, num(1)), binary(Add, num(1), x), binary(Sub, x, num(1)), binary(Add, x, x), binary(Add, moved, x),
		{Kind: Num, Args: []Expr{}}, {Kind: Num, Name: "x"}, {Kind: Var, Name: "x", N: 1}, {Kind: Var, Name: "x", Op: And}, {Kind: 9, Name: "x"}, {Args: []Expr{{}}}, {Args: []Expr{{}, {}}}}
	for i, a := range l {
		for j, b := range l {
			if want := outlineExpr(a) == outlineExpr(b); SameExpr(a, b) != want || i == j && !want {
				t.Errorf("%d, %d: %t", i, j, !want)
			}
		}
	}
}

// numbers are told one after the other, always the same ones.
type numbers uint64

func (n *numbers) below(limit int) int {
	*n = *n*6364136223846793005 + 1442695040888963407
	return int(uint64(*n>>33) % uint64(limit))
}

func (n *numbers) name() string {
	return []string{"x", "y", "a", "b", "f", "g", "x1", "if", ""}[n.below(8+n.below(2))]
}

func (n *numbers) exprs(deep, most int) []Expr {
	var l []Expr
	for range n.below(most + 1) {
		l = append(l, n.expr(deep))
	}
	return l
}

// expr is right, most of the time, if its names are.
func (n *numbers) expr(deep int) Expr {
	kinds := 5
	if deep == 0 {
		kinds = 2
	}
	e := Expr{Kind: ExprKind(n.below(kinds)), At: at(n.below(3), n.below(3))}
	switch e.Kind {
	case Num:
		return Expr{Kind: Num, N: int64(n.below(3)), At: e.At}
	case Var:
		e.Name = n.name()
	case Index:
		e.Name, e.Args = n.name(), []Expr{n.expr(deep - 1)}
	case Unary:
		e.Op, e.Args = Neg+Op(n.below(3)), []Expr{n.expr(deep - 1)}
	case Binary:
		e.Op, e.Args = Op(n.below(18)), []Expr{n.expr(deep - 1), n.expr(deep - 1)}
	}
	if n.below(100) == 0 {
		e.Args = n.exprs(deep, 2)
	}
	return e
}

func (n *numbers) stmts(deep, most int) []Stmt {
	var l []Stmt
	for range n.below(most + 1) {
		l = append(l, n.stmt(deep))
	}
	return l
}

func (n *numbers) stmt(deep int) Stmt {
	s := Stmt{Kind: StmtKind(n.below(7)), At: at(n.below(3), n.below(3))}
	has := []struct {
		name        bool
		exprs, then int
	}{{true, 1, 0}, {true, 2, 0}, {false, 1, 2}, {false, 1, 1}, {false, 1, 0}, {true, 3, 0}, {}}[s.Kind]
	if has.name {
		s.Name = n.name()
	}
	if s.Exprs = n.exprs(deep, has.exprs); s.Kind != Call {
		for len(s.Exprs) < has.exprs {
			s.Exprs = append(s.Exprs, n.expr(deep))
		}
	}
	if deep > 0 && has.then > 0 {
		s.Then = n.stmts(deep-1, 3)
	}
	if deep > 0 && has.then > 1 || n.below(100) == 0 {
		s.Else = n.stmts(max(deep-1, 0), 2)
	}
	return s
}

// P6.2, P6.3, P6.5: many programs, right ones and wrong ones.
func TestManyPrograms(t *testing.T) {
	n := numbers(6)
	right := 0
	for range 3000 {
		p := Program{Main: n.stmts(3, 4)}
		for range n.below(3) {
			p.Decls = append(p.Decls, Decl{Kind: DeclKind(n.below(5)), Name: n.name()})
			if d := &p.Decls[len(p.Decls)-1]; d.Kind == Proc {
				d.Params, d.Body = []string{n.name()}, n.stmts(2, 3)
			}
		}
		checkTree(t, p)
		if Right(p) {
			right++
		}
	}
	if right < 500 || right > 2500 {
		t.Errorf("%d are right", right)
	}
}

// P6.2, P6.4: what is handed in is only read, and a copy shares nothing with it, nor within itself.
func TestCopyNew(t *testing.T) {
	bytes := []byte("xif")
	lent := unsafe.String(&bytes[0], 1)
	e := []Expr{variable(lent), variable("behind")}[:1]
	block := []Stmt{assign(lent, e...), {Kind: Skip, Name: "behind"}}[:1]
	params := []string{lent, "behind"}[:1]
	shared := Stmt{Kind: If, Exprs: e, Then: block, Else: block, At: at(7, 7)}
	f := Decl{Kind: Proc, Name: lent, Params: params, Body: block}
	p := Program{Decls: []Decl{f, f, {Name: "behind"}}[:2], Main: []Stmt{shared, shared, {Name: "behind"}}[:2]}
	before, size := outline(p), Size(p)
	c := Copy(p)
	if outline(c) != before || size != 18 || string(bytes) != "xif" || !Same(p, c) || Depth(p) != 3 || !Right(p) {
		t.Fatal(before, outline(c))
	}
	for _, u := range []func(...Stmt) []string{Reads, Writes, Calls} {
		u(p.Main...)
	}
	if e[:2][1].Name+block[:2][1].Name+params[:2][1]+p.Decls[:3][2].Name+p.Main[:3][2].Name != strings.Repeat("behind", 5) || outline(p) != before {
		t.Fatal("what lay behind a list was written over")
	}

	// a part that is changed in a copy is changed there alone
	fields := 0
	visit(reflect.ValueOf(&c).Elem(), func(part reflect.Value) {
		fields++
		was := reflect.New(part.Type()).Elem()
		was.Set(part)
		if part.Kind() == reflect.Slice && part.Cap() > 0 { // whoever appends does not write into another list
			grown := reflect.Append(part.Slice(0, part.Len()), reflect.Zero(part.Type().Elem()))
			part.Set(grown)
			if outline(p) != before {
				t.Error("the program is changed by its copy")
			}
			part.Set(was)
		}
		if outline(c) != before {
			t.Error("the copy is changed by what was appended")
		}
		if part.Kind() == reflect.String {
			part.SetString("Q")
			name := strconv.Quote(was.String())
			if outline(p) != before || strings.Count(outline(c), `"Q"`) != 1 || strings.Count(outline(c), name) != strings.Count(before, name)-1 {
				t.Errorf("%s", outline(c))
			}
			part.Set(was)
		}
	})
	if fields < 100 {
		t.Error(fields)
	}

	// what is handed in is written over
	bytes[0] = '?'
	e[0], block[0], params[0] = Expr{Kind: 9}, Stmt{Kind: 9}, "9"
	clear(p.Decls)
	clear(p.Main)
	if outline(c) != before {
		t.Error("the copy hangs on the program")
	}
}

// P6.2, P6.4: all calls, of nothing.
func TestNothing(t *testing.T) {
	for _, p := range []Program{{}, {Decls: []Decl{}, Main: []Stmt{}}} {
		c := Copy(p)
		if len(c.Decls) != 0 || len(c.Main) != 0 || cap(c.Decls) != 0 || cap(c.Main) != 0 || !Right(p) || Size(p) != 0 || Depth(p) != 0 || !Same(p, Program{}) || !Same(Program{}, p) {
			t.Error("nothing")
		}
		checkTree(t, p)
	}
	if !SameExpr(Expr{}, Expr{Args: []Expr{}}) || !SameExpr(Expr{Args: []Expr{}}, Expr{}) || SameExpr(Expr{}, Expr{Args: []Expr{{}}}) {
		t.Error("an expression's nothing")
	}
	empty := mainOf(Stmt{Kind: Call, Name: "f", Exprs: []Expr{}, Then: []Stmt{}, Else: []Stmt{}})
	if !Same(empty, mainOf(call("f"))) || !Right(empty) {
		t.Error("empty lists")
	}
}

// P6.2, P6.3: trees that are nested deep, and long ones, in due time.
func TestDeepAndLong(t *testing.T) {
	const deep, long = 10000, 100000
	e, s := variable("x"), Stmt{Kind: Skip}
	for i := range deep - 2 {
		if i%2 == 0 {
			e = unary(Neg, e)
		} else {
			e = binary(Add, num(1), e)
		}
	}
	for i := range deep - 1 {
		if i%2 == 0 {
			s = while(variable("x"), s)
		} else {
			s = either(variable("y"), nil, statements(s))
		}
	}
	p := Program{Decls: []Decl{procedure(output(e))}, Main: statements(s)}
	for i := range long {
		p.Main = append(p.Main, assign("n"+strconv.Itoa(i), variable("m"+strconv.Itoa(i%1000))))
	}
	checkLong := func(p Program) {
		if !Right(p) || Size(p) != 2+deep-1+(deep-2)/2+2*deep-1+2*long || Depth(p) != deep+1 {
			t.Errorf("size %d, depth %d", Size(p), Depth(p))
		}
		if r, w, c := Reads(p.Main...), Writes(p.Main...), Calls(p.Main...); len(r) != 1002 || !slices.Equal(r[:3], []string{"x", "y", "m0"}) && !slices.Equal(r[:3], []string{"y", "x", "m0"}) || len(w) != long || w[7] != "n7" || len(c) != 0 {
			t.Errorf("%d, %d, %d names", len(r), len(w), len(c))
		}
	}
	checkLong(p)
	c := Copy(p)
	checkLong(c)
	inner := &c.Decls[0].Body[0].Exprs[0]
	for len(inner.Args) > 0 {
		inner = &inner.Args[len(inner.Args)-1]
	}
	if !Same(p, c) {
		t.Error("a copy")
	}
	inner.Name = "y"
	if Same(p, c) || Same(c, p) || !Right(c) {
		t.Error("a copy, changed deep in it")
	}
	inner.Name = "while"
	if Right(c) {
		t.Error("wrong, deep in it")
	}
}

package pretty

import (
	"math"
	"reflect"
	"slices"
	"strconv"
	"strings"
	"testing"
	"unsafe"

	"sieveholes/ast"
	"sieveholes/pos"
)

// These are short for trees.
func num(n int64) ast.Expr       { return ast.Expr{Kind: ast.Num, N: n} }
func variable(s string) ast.Expr { return ast.Expr{Kind: ast.Var, Name: s} }
func index(s string, e ...ast.Expr) ast.Expr {
	return ast.Expr{Kind: ast.Index, Name: s, Args: e}
}
func unary(o ast.Op, e ...ast.Expr) ast.Expr {
	return ast.Expr{Kind: ast.Unary, Op: o, Args: e}
}
func binary(o ast.Op, e ...ast.Expr) ast.Expr {
	return ast.Expr{Kind: ast.Binary, Op: o, Args: e}
}
func assign(s string, e ...ast.Expr) ast.Stmt {
	return ast.Stmt{Kind: ast.Assign, Name: s, Exprs: e}
}
func store(s string, e ...ast.Expr) ast.Stmt {
	return ast.Stmt{Kind: ast.Store, Name: s, Exprs: e}
}
func either(e ast.Expr, then, otherwise []ast.Stmt) ast.Stmt {
	return ast.Stmt{Kind: ast.If, Exprs: []ast.Expr{e}, Then: then, Else: otherwise}
}
func while(e ast.Expr, l ...ast.Stmt) ast.Stmt {
	return ast.Stmt{Kind: ast.While, Exprs: []ast.Expr{e}, Then: l}
}
func output(e ...ast.Expr) ast.Stmt { return ast.Stmt{Kind: ast.Output, Exprs: e} }
func call(s string, e ...ast.Expr) ast.Stmt {
	return ast.Stmt{Kind: ast.Call, Name: s, Exprs: e}
}
func procedure(s string, params []string, l ...ast.Stmt) ast.Decl {
	return ast.Decl{Kind: ast.Proc, Name: s, Params: params, Body: l}
}
func array(s string, n int64) ast.Decl { return ast.Decl{Kind: ast.Array, Name: s, Size: n} }
func block(l ...ast.Stmt) []ast.Stmt   { return l }
func declared(l ...ast.Decl) ast.Program {
	return ast.Program{Decls: l}
}

var (
	a, b, c, x, one = variable("a"), variable("b"), variable("c"), variable("x"), num(1)
	skip            = ast.Stmt{Kind: ast.Skip}
)

// lines are texts with a byte 10 behind each.
func lines(l ...string) string {
	if len(l) == 0 {
		return ""
	}
	return strings.Join(l, "\n") + "\n"
}

const least, greatest = "9223372036854775808", "9223372036854775807"

// P7.1
func TestNumber(t *testing.T) {
	for _, row := range []struct {
		n    int64
		want string
	}{
		{0, "0"}, {1, "1"}, {9, "9"}, {10, "10"}, {1234567890, "1234567890"}, {math.MaxInt32, "2147483647"}, {1 << 62, "4611686018427387904"}, {math.MaxInt64 - 1, "9223372036854775806"}, {math.MaxInt64, greatest},
		{-1, "-1"}, {-7, "-7"}, {-10, "-10"}, {math.MinInt32, "-2147483648"}, {-math.MaxInt64, "-" + greatest}, {math.MinInt64, least},
	} {
		if s := Number(row.n); s != row.want {
			t.Errorf("%d: %s", row.n, s)
		}
		// where it stands
		if row.n >= 0 || row.n == math.MinInt64 {
			program := "array t[" + row.want + "];\nmain {\n}\n"
			if Expr(num(row.n)) != row.want || Stmts(output(unary(ast.Neg, num(row.n)))) != "output -"+row.want+";\n" || Program(declared(array("t", row.n))) != program {
				t.Errorf("%d: an expression, a size", row.n)
			}
		} else if Expr(num(row.n))+Stmts(output(num(row.n)))+Program(declared(array("t", row.n))) != "" {
			t.Errorf("%d is not right there", row.n)
		}
		digits := strconv.FormatInt(row.n, 10)
		for kind, word := range []string{"public", "secret"} {
			d := ast.Decl{Kind: ast.DeclKind(kind), Name: "x", Lo: row.n, Hi: row.n}
			if s := Program(declared(d)); s != word+" x in ["+digits+", "+digits+"];\nmain {\n}\n" {
				t.Errorf("%d, in a range: %s", row.n, s)
			}
		}
	}
}

// P7.1: expressions, by hand.
func TestExpr(t *testing.T) {
	for _, row := range []struct {
		e    ast.Expr
		want string
	}{
		{ast.Expr{}, "0"}, {x, "x"}, {variable("_"), "_"}, {variable("Main2"), "Main2"}, {variable(strings.Repeat("z", 32)), strings.Repeat("z", 32)},
		{binary(ast.Mul, binary(ast.Add, one, x), num(2)), "(1 + x) * 2"}, {binary(ast.Sub, a, binary(ast.Sub, b, c)), "a - (b - c)"}, {unary(ast.Neg, unary(ast.Neg, index("t", num(3)))), "--t[3]"},
		{index("t", index("u", x)), "t[u[x]]"}, {index("t", binary(ast.Or, a, b)), "t[a || b]"}, {index("t", unary(ast.Inv, a)), "t[~a]"}, {binary(ast.Add, index("t", a), index("t", b)), "t[a] + t[b]"},
		{unary(ast.Neg, num(5)), "-5"}, {unary(ast.Neg, num(math.MinInt64)), "-" + least}, {binary(ast.Sub, num(math.MinInt64), num(math.MaxInt64)), least + " - " + greatest},
		{unary(ast.Not, unary(ast.Inv, unary(ast.Neg, x))), "!~-x"}, {unary(ast.Not, binary(ast.Eq, a, b)), "!(a == b)"}, {unary(ast.Neg, unary(ast.Neg, binary(ast.Mul, a, b))), "--(a * b)"}, {unary(ast.Inv, index("t", binary(ast.Mul, a, b))), "~t[a * b]"},
		{binary(ast.Sub, unary(ast.Neg, a), unary(ast.Neg, b)), "-a - -b"}, {binary(ast.And, unary(ast.Not, a), unary(ast.Not, b)), "!a && !b"}, {binary(ast.Mul, unary(ast.Neg, binary(ast.Add, a, b)), c), "-(a + b) * c"},
		{binary(ast.Sub, binary(ast.Sub, binary(ast.Sub, a, b), c), x), "a - b - c - x"}, {binary(ast.Sub, a, binary(ast.Sub, b, binary(ast.Sub, c, x))), "a - (b - (c - x))"}, {binary(ast.Sub, binary(ast.Sub, a, b), binary(ast.Sub, c, x)), "a - b - (c - x)"},
		{binary(ast.Or, binary(ast.And, a, b), binary(ast.And, b, c)), "a && b || b && c"}, {binary(ast.And, binary(ast.Or, a, b), binary(ast.Or, b, c)), "(a || b) && (b || c)"}, {binary(ast.Or, a, binary(ast.Or, b, c)), "a || (b || c)"},
		{binary(ast.Shl, binary(ast.Shl, a, b), binary(ast.Shr, b, c)), "a << b << (b >> c)"}, {binary(ast.BitAnd, binary(ast.Xor, a, b), binary(ast.Shl, b, c)), "(a ^ b) & b << c"}, {binary(ast.Lt, binary(ast.Eq, a, b), binary(ast.Add, b, c)), "(a == b) < b + c"},
		{binary(ast.Rem, binary(ast.Div, binary(ast.Mul, a, b), c), binary(ast.Rem, a, b)), "a * b / c % (a % b)"}, {binary(ast.Add, binary(ast.Mul, binary(ast.Add, a, b), c), binary(ast.Mul, binary(ast.Add, a, b), c)), "(a + b) * c + (a + b) * c"},
	} {
		if s := Expr(row.e); s != row.want {
			t.Errorf("%s; want %s", s, row.want)
		}
		if s, want := Stmts(store("t", row.e, row.e), call("f", row.e, row.e)), "t["+row.want+"] = "+row.want+";\ncall f("+row.want+", "+row.want+");\n"; s != want {
			t.Errorf("%s; want %s", s, want)
		}
	}
}

// looseFirst are the operators of two operands by levels; all in all they stand by their numbers.
var looseFirst = [][]string{{"||"}, {"&&"}, {"==", "!="}, {"<", "<=", ">", ">="}, {"|", "^"}, {"&"}, {"<<", ">>"}, {"+", "-"}, {"*", "/", "%"}}

// eachBinary is told each operator of two operands, with its text and its level.
func eachBinary(visit func(o ast.Op, text string, level int)) {
	o := ast.Op(0)
	for level, texts := range looseFirst {
		for _, text := range texts {
			visit(o, text, level)
			o++
		}
	}
}

// P7.1: each operator within each other one, with the round brackets that are told and no others.
func TestOperatorsWithinOperators(t *testing.T) {
	count := 0
	check := func(e ast.Expr, want string) {
		t.Helper()
		count++
		if s := Expr(e); s != want {
			t.Errorf("%s; want %s", s, want)
		}
	}
	ones := []string{"-", "!", "~"}
	eachBinary(func(outer ast.Op, o string, level int) {
		check(binary(outer, a, b), "a "+o+" b")
		check(index("t", binary(outer, a, b)), "t[a "+o+" b]")
		check(binary(outer, index("t", binary(outer, a, b)), index("t", binary(outer, a, b))), "t[a "+o+" b] "+o+" t[a "+o+" b]")
		eachBinary(func(inner ast.Op, i string, innerLevel int) {
			left, right := "a "+i+" b", "b "+i+" c"
			if innerLevel < level {
				left = "(" + left + ")"
			}
			if innerLevel <= level {
				right = "(" + right + ")"
			}
			check(binary(outer, binary(inner, a, b), c), left+" "+o+" c")
			check(binary(outer, a, binary(inner, b, c)), "a "+o+" "+right)
			check(binary(outer, binary(inner, a, b), binary(inner, b, c)), left+" "+o+" "+right)
			check(binary(outer, unary(ast.Neg, binary(inner, a, b)), unary(ast.Inv, binary(inner, b, c))), "-(a "+i+" b) "+o+" ~(b "+i+" c)")
		})
		for i, text := range ones {
			one := ast.Neg + ast.Op(i)
			check(unary(one, binary(outer, a, b)), text+"(a "+o+" b)")
			check(binary(outer, unary(one, a), unary(one, b)), text+"a "+o+" "+text+"b")
		}
	})
	for i, outer := range ones {
		for j, inner := range ones {
			check(unary(ast.Neg+ast.Op(i), unary(ast.Neg+ast.Op(j), x)), outer+inner+"x")
		}
	}
	if count != 18*(3+4*18+6)+9 {
		t.Error(count)
	}
}

// P7.1: statements, by hand, alone, and deeper and deeper in blocks.
func TestStmts(t *testing.T) {
	for _, row := range []struct {
		l    []ast.Stmt
		want []string
	}{
		{nil, nil}, {block(skip), []string{"skip;"}}, {block(output(one)), []string{"output 1;"}}, {block(assign("x", binary(ast.Add, x, one))), []string{"x = x + 1;"}}, {block(store("a", variable("i"), unary(ast.Neg, x))), []string{"a[i] = -x;"}},
		{block(store("t", binary(ast.Lt, a, b), binary(ast.Sub, a, binary(ast.Add, b, c)))), []string{"t[a < b] = a - (b + c);"}},
		{block(call("p")), []string{"call p();"}}, {block(call("p", x)), []string{"call p(x);"}}, {block(call("p", binary(ast.Or, a, b), unary(ast.Not, c))), []string{"call p(a || b, !c);"}}, {block(call("p", one, num(2), num(3), index("t", x))), []string{"call p(1, 2, 3, t[x]);"}},
		{block(either(x, nil, nil)), []string{"if x {", "}"}}, {block(either(x, []ast.Stmt{}, []ast.Stmt{})), []string{"if x {", "}"}}, {block(either(x, block(skip), nil)), []string{"if x {", "  skip;", "}"}},
		{block(either(x, nil, block(skip))), []string{"if x {", "} else {", "  skip;", "}"}}, {block(either(x, block(skip, skip), block(output(x), skip))), []string{"if x {", "  skip;", "  skip;", "} else {", "  output x;", "  skip;", "}"}},
		{block(either(a, nil, block(either(b, nil, block(either(c, nil, nil)))))), []string{"if a {", "} else {", "  if b {", "  } else {", "    if c {", "    }", "  }", "}"}},
		{block(either(a, block(either(b, nil, block(skip))), nil)), []string{"if a {", "  if b {", "  } else {", "    skip;", "  }", "}"}}, {block(either(a, block(either(b, nil, nil)), block(skip))), []string{"if a {", "  if b {", "  }", "} else {", "  skip;", "}"}},
		{block(while(one)), []string{"while 1 {", "}"}}, {block(while(one, []ast.Stmt{}...)), []string{"while 1 {", "}"}}, {block(while(binary(ast.Lt, x, one), skip, output(x))), []string{"while x < 1 {", "  skip;", "  output x;", "}"}}, {block(while(a, while(b), while(c, skip)), skip), []string{"while a {", "  while b {", "  }", "  while c {", "    skip;", "  }", "}", "skip;"}},
		{block(while(a, either(b, block(while(c, skip)), block(call("f"))), skip), assign("x", one)), []string{"while a {", "  if b {", "    while c {", "      skip;", "    }", "  } else {", "    call f();", "  }", "  skip;", "}", "x = 1;"}},
		{block(skip, output(x), skip, skip), []string{"skip;", "output x;", "skip;", "skip;"}},
	} {
		l, want := row.l, row.want
		for deep := range 5 {
			if s := Stmts(l...); s != lines(want...) {
				t.Errorf("%d deep: %s; want %s", deep, s, lines(want...))
			}
			if s := Program(ast.Program{Main: l}); s != lines(within("main {", want, "}")...) {
				t.Errorf("%d deep, in main: %s", deep, s)
			}
			if s := Program(declared(procedure("f", nil, l...))); s != lines(within("proc f() {", want, "}", "main {", "}")...) {
				t.Errorf("%d deep, in a procedure: %s", deep, s)
			}
			l, want = block(while(x, l...)), within("while x {", want, "}")
		}
	}
}

// within are lines in a block more, and those about them.
func within(ahead string, inner []string, behind ...string) []string {
	all := []string{ahead}
	for _, line := range inner {
		all = append(all, "  "+line)
	}
	return append(all, behind...)
}

// P7.1: declarations, by hand, one by one and all together.
func TestDecls(t *testing.T) {
	var decls []ast.Decl
	var texts []string
	for _, row := range []struct {
		d    ast.Decl
		want []string
	}{
		{ast.Decl{Kind: ast.Public, Name: "p", Lo: 0, Hi: 3}, []string{"public p in [0, 3];"}}, {ast.Decl{Kind: ast.Public, Name: "p", Lo: -3, Hi: -1}, []string{"public p in [-3, -1];"}}, {ast.Decl{Kind: ast.Public, Name: "p"}, []string{"public p in [0, 0];"}},
		{ast.Decl{Kind: ast.Secret, Name: "s", Lo: math.MinInt64, Hi: math.MaxInt64}, []string{"secret s in [-" + least + ", " + greatest + "];"}}, {ast.Decl{Kind: ast.Secret, Name: "s", Lo: 5, Hi: -5}, []string{"secret s in [5, -5];"}},
		{ast.Decl{Kind: ast.Scalar, Name: "x"}, []string{"var x;"}}, {ast.Decl{Kind: ast.Scalar, Name: "Var"}, []string{"var Var;"}},
		{array("a", 0), []string{"array a[0];"}}, {array("a", 1024), []string{"array a[1024];"}}, {array("a", math.MaxInt64), []string{"array a[" + greatest + "];"}}, {array("a", math.MinInt64), []string{"array a[" + least + "];"}},
		{procedure("f", nil), []string{"proc f() {", "}"}}, {procedure("f", []string{}, []ast.Stmt{}...), []string{"proc f() {", "}"}}, {procedure("f", []string{"x"}, skip), []string{"proc f(x) {", "  skip;", "}"}}, {procedure("f", []string{"x", "y"}), []string{"proc f(x, y) {", "}"}},
		{procedure("f", []string{"x", "x", "f", "_"}, output(x), either(x, nil, block(skip))), []string{"proc f(x, x, f, _) {", "  output x;", "  if x {", "  } else {", "    skip;", "  }", "}"}},
	} {
		decls, texts = append(decls, row.d), append(texts, row.want...)
		if s, want := Program(declared(row.d)), lines(append(row.want, "main {", "}")...); s != want {
			t.Errorf("%s; want %s", s, want)
		}
		p := ast.Program{Decls: decls, Main: block(skip, output(one))}
		if s, want := Program(p), lines(append(texts[:len(texts):len(texts)], "main {", "  skip;", "  output 1;", "}")...); s != want {
			t.Errorf("%s; want %s", s, want)
		}
	}
}

// allKinds is a right program with all kinds of trees, with positions.
func allKinds() ast.Program {
	at := func(line, col int) pos.Pos { return pos.Pos{Line: line, Col: col} }
	i := index("t", variable("i"))
	i.At = at(3, 4)
	return ast.Program{
		Decls: []ast.Decl{
			{Kind: ast.Public, Name: "p", Lo: -3, Hi: 3, At: at(1, 1)},
			{Kind: ast.Secret, Name: "s", Lo: math.MinInt64, Hi: math.MaxInt64, At: at(2, 1)},
			{Kind: ast.Scalar, Name: "i", At: at(3, 1)},
			{Kind: ast.Array, Name: "t", Size: 4},
			{Kind: ast.Proc, Name: "f", Params: []string{"n", "m"}, Body: block(output(binary(ast.Mul, num(2), binary(ast.Shl, variable("n"), variable("m")))))},
			{Kind: ast.Proc, Name: "g"},
		},
		Main: []ast.Stmt{
			while(binary(ast.Lt, variable("i"), variable("s")),
				store("t", variable("i"), binary(ast.Add, i, one)),
				either(unary(ast.Not, variable("p")), block(call("f", variable("i"), num(0))), block(assign("i", num(7))))),
			either(variable("i"), nil, nil), call("g"), {Kind: ast.Skip, At: at(9, 9)},
		},
	}
}

const allKindsText = `public p in [-3, 3];
secret s in [-9223372036854775808, 9223372036854775807];
var i;
array t[4];
proc f(n, m) {
  output 2 * (n << m);
}
proc g() {
}
main {
  while i < s {
    t[i] = t[i] + 1;
    if !p {
      call f(i, 0);
    } else {
      i = 7;
    }
  }
  if i {
  }
  call g();
  skip;
}
`

// P7.1, P7.3: a program with all kinds of trees; nothing in it.
func TestProgram(t *testing.T) {
	if s := Program(allKinds()); s != allKindsText {
		t.Error(s)
	}
	for _, p := range []ast.Program{{}, {Decls: []ast.Decl{}, Main: []ast.Stmt{}}} {
		if s := Program(p); s != "main {\n}\n" {
			t.Error(s)
		}
	}
	if Stmts() != "" || Stmts(nil...) != "" || Stmts([]ast.Stmt{}...) != "" {
		t.Error("no statements")
	}
}

// P7.1: what is not right, as a whole, or deep inside, tells nothing.
func TestNotRight(t *testing.T) {
	for i, e := range []ast.Expr{
		num(-1), num(math.MinInt64 + 1), variable(""), variable("if"), variable("1x"), variable("x y"), variable(strings.Repeat("z", 33)), index("t"), index("t", one, one), index("in", one), unary(ast.Neg), unary(ast.Neg, one, one), unary(ast.Sub, one), unary(-1, one), unary(21, one),
		binary(ast.Add), binary(ast.Add, one), binary(ast.Add, one, one, one), binary(ast.Neg, one, one), binary(-1, one, one), binary(math.MaxInt, one, one), {Kind: -1}, {Kind: 5}, {Kind: math.MinInt}, {Kind: math.MaxInt}, {Kind: ast.Num, Name: "x"}, {Kind: ast.Num, Args: []ast.Expr{one}}, {Kind: ast.Var, Name: "x", N: 1}, {Kind: ast.Var, Name: "x", Op: ast.And}, {Kind: ast.Index, Name: "t", Op: ast.And, Args: []ast.Expr{one}},
	} {
		for range 4 {
			checkNothing(t, i, Expr(e), Stmts(output(e)))
			checkNoStatement(t, i, assign("x", e), store("t", e, one), store("t", one, e), either(e, nil, nil), while(e), call("f", one, e, one))
			e = binary(ast.Add, index("t", unary(ast.Neg, e)), one)
		}
	}
	one, two := []ast.Expr{one}, []ast.Expr{one, one}
	checkNoStatement(t, 1000, assign("x"), assign("x", two...), assign("main", one...), assign("", one...), store("t", one...), store("t"), store("else", two...), output(), output(two...), call("call"), call(""), while(x, assign("x")), either(x, block(assign("x")), nil), either(x, nil, block(assign("x"))),
		ast.Stmt{}, ast.Stmt{Kind: -1}, ast.Stmt{Kind: 7}, ast.Stmt{Kind: math.MinInt}, ast.Stmt{Kind: math.MaxInt}, ast.Stmt{Kind: ast.If}, ast.Stmt{Kind: ast.While, Exprs: two}, ast.Stmt{Kind: ast.While, Exprs: one, Else: block(skip)}, ast.Stmt{Kind: ast.Skip, Name: "x"}, ast.Stmt{Kind: ast.Skip, Exprs: one}, ast.Stmt{Kind: ast.Skip, Then: block(skip)}, ast.Stmt{Kind: ast.Output, Name: "x", Exprs: one}, ast.Stmt{Kind: ast.Call, Name: "f", Then: block(skip)})
	for i, d := range []ast.Decl{
		{}, {Kind: -1, Name: "x"}, {Kind: 5, Name: "x"}, {Kind: math.MaxInt, Name: "x"}, {Kind: math.MinInt, Name: "x"}, {Kind: ast.Public, Name: "in"}, {Kind: ast.Public, Name: "x", Size: 1}, {Kind: ast.Secret, Name: ""}, {Kind: ast.Secret, Name: "x", Body: block(skip)}, {Kind: ast.Scalar, Name: "var"}, {Kind: ast.Scalar, Name: "x", Hi: 1},
		array("t", -1), array("t", math.MinInt64+1), array("array", 1), {Kind: ast.Array, Name: "t", Lo: 1}, procedure("proc", nil), procedure("f", []string{"x", "if"}), procedure("f", []string{""}), {Kind: ast.Proc, Name: "f", Size: 1},
	} {
		checkNothing(t, i, Program(declared(d)), Program(ast.Program{Decls: []ast.Decl{array("t", 1), d}, Main: block(skip)}))
	}
}

// checkNoStatement is about statements that are not right.
func checkNoStatement(t *testing.T, i int, l ...ast.Stmt) {
	t.Helper()
	for j, s := range l {
		checkNothing(t, i*100+j, Stmts(s), Stmts(skip, s, skip), Stmts(while(x, skip, either(x, nil, block(s)), skip)), Program(ast.Program{Main: block(skip, s)}), Program(declared(procedure("f", nil, s))))
	}
}

func checkNothing(t *testing.T, i int, texts ...string) {
	t.Helper()
	if s := strings.Join(texts, ""); s != "" {
		t.Errorf("%d: %s", i, s)
	}
}

// parts goes over all parts of trees, lists too. A part may be changed; lists are gone over first.
func parts(v reflect.Value, visit func(part reflect.Value)) {
	if v.Kind() == reflect.Struct {
		for i := range v.NumField() {
			parts(v.Field(i), visit)
		}
		return
	}
	visit(v)
	if v.Kind() == reflect.Slice {
		for i := range v.Len() {
			parts(v.Index(i), visit)
		}
	}
}

// others are values that a part may be changed to.
func others(part reflect.Value) []any {
	switch part.Interface().(type) {
	case string:
		return []any{"", "x", "X", "if", "1x", "a b", strings.Repeat("z", 32), strings.Repeat("z", 33)}
	case int64:
		return []any{int64(0), int64(1), int64(-1), int64(math.MinInt64), int64(math.MinInt64 + 1), int64(math.MaxInt64)}
	case []string:
		return []any{[]string(nil), []string{}, []string{"x"}, []string{"x", "y"}, []string{"m", "n"}, []string{"n", "var"}}
	case []ast.Expr:
		return []any{[]ast.Expr(nil), []ast.Expr{}, []ast.Expr{one}, []ast.Expr{x, one}, []ast.Expr{num(-1)}, []ast.Expr{{}, {}, {}}}
	case []ast.Stmt:
		return []any{[]ast.Stmt(nil), []ast.Stmt{}, block(skip), block(skip, skip), block(assign("x"), skip)}
	case []ast.Decl:
		return []any{[]ast.Decl(nil), []ast.Decl{}, []ast.Decl{{Kind: ast.Scalar, Name: "x"}}, []ast.Decl{{}}}
	}
	var numbers []any // of kinds, operators, lines and columns
	for n := int64(-1); n <= 22; n++ {
		numbers = append(numbers, reflect.ValueOf(n).Convert(part.Type()).Interface())
	}
	return append(numbers, reflect.ValueOf(int64(math.MaxInt64)).Convert(part.Type()).Interface())
}

// P7.1, P7.3: each part of a program with all kinds of trees is changed: the text is the same, if the program is.
func TestEachPart(t *testing.T) {
	p, q := allKinds(), allKinds()
	count, same, right := 0, 0, 0
	parts(reflect.ValueOf(&q).Elem(), func(part reflect.Value) {
		was := reflect.New(part.Type()).Elem()
		was.Set(part)
		for _, other := range others(part) {
			part.Set(reflect.ValueOf(other))
			count++
			s := Program(q)
			switch {
			case !ast.Right(q):
				if s != "" {
					t.Errorf("not right: %s", s)
				}
				continue
			case ast.Same(p, q):
				same++
			}
			right++
			if (s == allKindsText) != ast.Same(p, q) || s == "" {
				t.Errorf("%s to %v: %s", part.Type(), other, s)
			}
			checkText(t, q)
		}
		part.Set(was)
	})
	if count < 2000 || same < 1000 || right < same+150 || right > count-500 {
		t.Error(count, same, right)
	}
}

// P7.3: texts of all pairs are the same just if the trees are.
func TestPairs(t *testing.T) {
	moved, shared := x, block(skip)
	moved.At = pos.Pos{Line: 3, Col: 3}
	exprs := []ast.Expr{num(0), one, num(math.MinInt64), x, moved, variable("y"), variable("x1"), index("x", x), index("x", moved), index("x", num(0)), unary(ast.Neg, x), unary(ast.Not, x), unary(ast.Inv, x), unary(ast.Neg, unary(ast.Neg, x)), unary(ast.Neg, one), unary(ast.Neg, binary(ast.Sub, x, x)), binary(ast.Sub, unary(ast.Neg, x), x)}
	for _, o := range []ast.Op{ast.Or, ast.Eq, ast.Sub, ast.Add, ast.Mul} {
		exprs = append(exprs, binary(o, x, one), binary(o, one, x), binary(o, moved, one), binary(o, binary(o, x, x), x), binary(o, x, binary(o, x, x)), binary(o, binary(ast.Add, x, x), x), binary(o, x, binary(ast.Add, x, x)), binary(ast.Add, x, binary(o, x, x)), binary(ast.Add, binary(o, x, x), x))
	}
	rows := [][]ast.Stmt{nil, {skip}, {skip, skip}, {while(x, skip)}, {while(x), skip}, {either(x, nil, nil)}, {either(x, shared, nil)}, {either(x, nil, shared)}, {either(x, shared, shared)}, {either(x, nil, nil), skip}, {either(x, nil, []ast.Stmt{}), skip}, {either(x, block(either(x, nil, shared)), nil)}, {either(x, block(either(x, nil, nil)), shared)}, {call("x")}, {call("x", x)}, {call("x", moved)}, {call("x", x, x)}, {call("y", x)}, {call("x", one), call("x")}, {{Kind: ast.Skip, At: pos.Pos{Line: 1, Col: 1}}}}
	for _, e := range exprs {
		rows = append(rows, block(output(e)), block(assign("x", e)), block(store("x", x, e)), block(store("x", e, x)), block(while(e)))
	}
	var programs []ast.Program
	for _, l := range rows {
		programs = append(programs, ast.Program{Main: l}, declared(procedure("f", nil, l...)), ast.Program{Decls: []ast.Decl{procedure("f", []string{"x"})}, Main: l})
	}
	var texts []string
	for _, p := range programs {
		checkText(t, p)
		texts = append(texts, Program(p))
	}
	for i, p := range programs {
		for j, q := range programs {
			if (texts[i] == texts[j]) != ast.Same(p, q) {
				t.Fatalf("%s and %s", texts[i], texts[j])
			}
		}
	}
	for _, d := range exprs {
		for _, e := range exprs {
			if (Expr(d) == Expr(e)) != ast.SameExpr(d, e) {
				t.Errorf("%s and %s", Expr(d), Expr(e))
			}
		}
	}
	for _, k := range rows {
		for _, l := range rows {
			if (Stmts(k...) == Stmts(l...)) != ast.Same(ast.Program{Main: k}, ast.Program{Main: l}) {
				t.Errorf("%s and %s", Stmts(k...), Stmts(l...))
			}
		}
	}
}

// P7.2: what is handed in is only read, and a text does not hang on it.
func TestHandedIn(t *testing.T) {
	bytes := []byte("x")
	lent := unsafe.String(&bytes[0], 1)
	exprs := []ast.Expr{variable(lent), variable("behind")}[:1]
	params := []string{lent, "behind"}[:1]
	inner := []ast.Stmt{output(exprs...), assign(lent, exprs...), {Kind: ast.Skip, Name: "behind"}}[:2]
	shared := ast.Stmt{Kind: ast.If, Exprs: exprs, Then: inner, Else: inner}
	f := ast.Decl{Kind: ast.Proc, Name: lent, Params: params, Body: inner}
	p := ast.Program{Decls: []ast.Decl{f, f, {Name: "behind"}}[:2], Main: []ast.Stmt{shared, shared, {Name: "behind"}}[:2]}
	before := ast.Copy(p)
	program, stmts, expr := Program(p), Stmts(p.Main...), Expr(exprs[0])
	if !reflect.DeepEqual(p, before) || string(bytes) != "x" {
		t.Error("what was handed in is changed")
	}
	if behind := []string{exprs[:2][1].Name, params[:2][1], inner[:3][2].Name, p.Decls[:3][2].Name, p.Main[:3][2].Name}; strings.Join(behind, "") != strings.Repeat("behind", 5) {
		t.Error("what lay behind a list is written over", behind)
	}
	again := []string{strings.Clone(program), strings.Clone(stmts), strings.Clone(expr)}
	bytes[0] = '?'
	exprs[0], inner[0], params[0] = num(7), skip, "y"
	clear(p.Decls)
	clear(p.Main)
	if !slices.Equal(again, []string{program, stmts, expr}) || program != Program(before) || stmts != Stmts(before.Main...) || expr != "x" {
		t.Error("a text hangs on what was handed in")
	}
}

// P7.1: trees that are nested deep, and long ones, in due time.
func TestDeepAndLong(t *testing.T) {
	const deep, blocks, long = 9990, 2000, 100000
	left, right, ones := x, x, x
	for range deep {
		left, right, ones = binary(ast.Sub, left, one), binary(ast.Sub, one, right), unary(ast.Neg, ones)
	}
	for i, row := range []struct {
		e    ast.Expr
		want string
	}{
		{left, "x" + strings.Repeat(" - 1", deep)}, {right, "1 - " + strings.Repeat("(1 - ", deep-1) + "x" + strings.Repeat(")", deep-1)}, {ones, strings.Repeat("-", deep) + "x"},
	} {
		if Expr(row.e) != row.want || Stmts(while(x, output(row.e))) != "while x {\n  output "+row.want+";\n}\n" {
			t.Error(i)
		}
	}

	s := skip
	var open, closed []string
	for i := range blocks {
		s = while(x, s)
		margin := strings.Repeat("  ", i)
		open, closed = append(open, margin+"while x {"), append(closed, margin+"}")
	}
	slices.Reverse(closed)
	open = append(open, strings.Repeat("  ", blocks)+"skip;")
	if Stmts(s) != lines(append(open, closed...)...) {
		t.Error("blocks")
	}

	var l []ast.Stmt
	var want []string
	for i := range long {
		name := "n" + strconv.Itoa(i)
		l, want = append(l, assign(name, x)), append(want, name+" = x;")
	}
	if Stmts(l...) != lines(want...) || Stmts(append(l, assign("if", x))...) != "" {
		t.Error("long")
	}
}

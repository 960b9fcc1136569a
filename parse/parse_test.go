package parse

import (
	"math"
	"reflect"
	"slices"
	"strconv"
	"strings"
	"testing"
	"unsafe"

	"sieveholes/api"
	"sieveholes/ast"
	"sieveholes/pos"
	"sieveholes/pretty"
	"sieveholes/token"
)

// These are short for trees, with the line (1) and the column of each.

func at(col int) pos.Pos                     { return pos.Pos{Line: 1, Col: col} }
func num(col int, n int64) ast.Expr          { return ast.Expr{Kind: ast.Num, N: n, At: at(col)} }
func variable(col int, name string) ast.Expr { return ast.Expr{Kind: ast.Var, Name: name, At: at(col)} }
func index(col int, name string, e ...ast.Expr) ast.Expr {
	return ast.Expr{Kind: ast.Index, Name: name, Args: e, At: at(col)}
}
func unary(col int, op ast.Op, e ...ast.Expr) ast.Expr {
	return ast.Expr{Kind: ast.Unary, Op: op, Args: e, At: at(col)}
}
func binary(col int, op ast.Op, e ...ast.Expr) ast.Expr {
	return ast.Expr{Kind: ast.Binary, Op: op, Args: e, At: at(col)}
}
func stmt(col int, kind ast.StmtKind, name string, e ...ast.Expr) ast.Stmt {
	return ast.Stmt{Kind: kind, Name: name, Exprs: e, At: at(col)}
}
func skip(col int) ast.Stmt { return stmt(col, ast.Skip, "") }
func fault(line, col int, err api.Errno) pos.Fault {
	return pos.Fault{At: pos.Pos{Line: line, Col: col}, Err: err}
}

var (
	programs = newGrammar("program")
	exprs    = newGrammar("expr")
)

// depths are those at which a text is parsed that nests so deep.
func depths(nests int) []int {
	l := []int{math.MinInt, -1, nests - 1, nests, nests + 1, math.MaxInt}
	for d := range min(nests-1, 20) {
		l = append(l, d)
	}
	return l
}

// checkProgram holds what is answered of a text against the oracle, at all depths that count.
func checkProgram(t *testing.T, text string) {
	t.Helper()
	o := newOracle(programs, text)
	for _, depth := range depths(o.nests()) {
		p, f := Parse(text, depth)
		if f != o.at(depth) {
			t.Errorf("%q, %d: fault %v, and not %v", text, depth, f, o.at(depth))
		}
		if f.Err == api.OK {
			if told(p) != said(o.tokens) || !ast.Right(p) {
				t.Errorf("%q, %d: %s, and not %s", text, depth, told(p), said(o.tokens))
			}
		} else if !reflect.DeepEqual(p, ast.Program{}) {
			t.Errorf("%q, %d: %v, beside a fault", text, depth, p)
		}
	}
	want := o.nests()
	if o.fault.Err != api.OK {
		want = 0
	}
	if n, f := Nest(text); n != want || f != o.fault {
		t.Errorf("%q nests %d, %v, and not %d, %v", text, n, f, want, o.fault)
	}
	checkJoined(t, o, text, Parse, ast.Same)
}

// checkExpr does the same of an expression's text.
func checkExpr(t *testing.T, text string) {
	t.Helper()
	o := newOracle(exprs, text)
	for _, depth := range depths(o.nests()) {
		e, f := Expr(text, depth)
		if f != o.at(depth) {
			t.Errorf("%q, %d: fault %v, and not %v", text, depth, f, o.at(depth))
		}
		if f.Err == api.OK {
			if got, want := toldExpr(e), grouped(o.tokens[:len(o.tokens)-1]); got != want || pretty.Expr(e) == "" {
				t.Errorf("%q, %d: %s, and not %s", text, depth, got, want)
			}
		} else if !reflect.DeepEqual(e, ast.Expr{}) {
			t.Errorf("%q, %d: %v, beside a fault", text, depth, e)
		}
	}
	checkJoined(t, o, text, Expr, ast.SameExpr)
}

// checkJoined is about the tokens of a text, joined: they are parsed as it is, and faults stand at the same tokens.
func checkJoined[T any](t *testing.T, o oracle, text string, parse func(string, int) (T, pos.Fault), same func(T, T) bool) {
	t.Helper()
	if o.tokens == nil {
		return
	}
	joined := token.Join(o.tokens...)
	own, _ := token.All(joined)
	for _, depth := range []int{o.nests() - 1, o.nests()} {
		tree, f := parse(text, depth)
		other, g := parse(joined, depth)
		where := func(l []token.Token, at pos.Pos) int {
			return slices.IndexFunc(l, func(x token.Token) bool { return x.At == at })
		}
		if f.Err != g.Err || where(o.tokens, f.At) != where(own, g.At) || !same(tree, other) {
			t.Errorf("%q, %d: %v; joined: %v", text, depth, f, g)
		}
	}
}

// P8.1: expressions, and where they stand.
func TestExpr(t *testing.T) {
	for text, want := range map[string]ast.Expr{
		"0":                     num(1, 0),
		" 12 ":                  num(2, 12),
		"9223372036854775807":   num(1, math.MaxInt64),
		"9223372036854775808":   num(1, math.MinInt64),
		"-9223372036854775808":  unary(1, ast.Neg, num(2, math.MinInt64)),
		"-1":                    unary(1, ast.Neg, num(2, 1)),
		"x":                     variable(1, "x"),
		"mainx # main":          variable(1, "mainx"),
		"(x)":                   variable(2, "x"),
		"((12))":                num(3, 12),
		"a[0]":                  index(1, "a", num(3, 0)),
		"(a)":                   variable(2, "a"),
		"(a[(i)])":              index(2, "a", variable(5, "i")),
		"a [b[c[1]]]":           index(1, "a", index(4, "b", index(6, "c", num(8, 1)))),
		"a[-i + 1]":             index(1, "a", binary(6, ast.Add, unary(3, ast.Neg, variable(4, "i")), num(8, 1))),
		"a[i] * b[j]":           binary(6, ast.Mul, index(1, "a", variable(3, "i")), index(8, "b", variable(10, "j"))),
		"-!~x":                  unary(1, ast.Neg, unary(2, ast.Not, unary(3, ast.Inv, variable(4, "x")))),
		"- - -x":                unary(1, ast.Neg, unary(3, ast.Neg, unary(5, ast.Neg, variable(6, "x")))),
		"-(x + y)":              unary(1, ast.Neg, binary(5, ast.Add, variable(3, "x"), variable(7, "y"))),
		"-x[1]":                 unary(1, ast.Neg, index(2, "x", num(4, 1))),
		"-x + y":                binary(4, ast.Add, unary(1, ast.Neg, variable(2, "x")), variable(6, "y")),
		"x - -y":                binary(3, ast.Sub, variable(1, "x"), unary(5, ast.Neg, variable(6, "y"))),
		"x--y":                  binary(2, ast.Sub, variable(1, "x"), unary(3, ast.Neg, variable(4, "y"))),
		"x*-y+z":                binary(5, ast.Add, binary(2, ast.Mul, variable(1, "x"), unary(3, ast.Neg, variable(4, "y"))), variable(6, "z")),
		"x<!y":                  binary(2, ast.Lt, variable(1, "x"), unary(3, ast.Not, variable(4, "y"))),
		"1 + 2 * y":             binary(3, ast.Add, num(1, 1), binary(7, ast.Mul, num(5, 2), variable(9, "y"))),
		"1 * 2 + y":             binary(7, ast.Add, binary(3, ast.Mul, num(1, 1), num(5, 2)), variable(9, "y")),
		"(1 + 2) * y":           binary(9, ast.Mul, binary(4, ast.Add, num(2, 1), num(6, 2)), variable(11, "y")),
		"a - b - c":             binary(7, ast.Sub, binary(3, ast.Sub, variable(1, "a"), variable(5, "b")), variable(9, "c")),
		"a - (b - c)":           binary(3, ast.Sub, variable(1, "a"), binary(8, ast.Sub, variable(6, "b"), variable(10, "c"))),
		"(a - b) - c":           binary(9, ast.Sub, binary(4, ast.Sub, variable(2, "a"), variable(6, "b")), variable(11, "c")),
		"((a) - ((b - c)))":     binary(6, ast.Sub, variable(3, "a"), binary(12, ast.Sub, variable(10, "b"), variable(14, "c"))),
		"a < b == c < d":        binary(7, ast.Eq, binary(3, ast.Lt, variable(1, "a"), variable(5, "b")), binary(12, ast.Lt, variable(10, "c"), variable(14, "d"))),
		"a<b<c":                 binary(4, ast.Lt, binary(2, ast.Lt, variable(1, "a"), variable(3, "b")), variable(5, "c")),
		"a||b&&c||d":            binary(8, ast.Or, binary(2, ast.Or, variable(1, "a"), binary(5, ast.And, variable(4, "b"), variable(7, "c"))), variable(10, "d")),
		"a|b^c":                 binary(4, ast.Xor, binary(2, ast.BitOr, variable(1, "a"), variable(3, "b")), variable(5, "c")),
		"a|b&c":                 binary(2, ast.BitOr, variable(1, "a"), binary(4, ast.BitAnd, variable(3, "b"), variable(5, "c"))),
		"a<<b>>c":               binary(5, ast.Shr, binary(2, ast.Shl, variable(1, "a"), variable(4, "b")), variable(7, "c")),
		"a*b/c%d":               binary(6, ast.Rem, binary(4, ast.Div, binary(2, ast.Mul, variable(1, "a"), variable(3, "b")), variable(5, "c")), variable(7, "d")),
		"~a[i]>=-(7)&&!(b!=c)":  binary(12, ast.And, binary(6, ast.Ge, unary(1, ast.Inv, index(2, "a", variable(4, "i"))), unary(8, ast.Neg, num(10, 7))), unary(14, ast.Not, binary(17, ast.Ne, variable(16, "b"), variable(19, "c")))),
		"a<=b>c":                binary(5, ast.Gt, binary(2, ast.Le, variable(1, "a"), variable(4, "b")), variable(6, "c")),
		strings.Repeat("w", 32): variable(1, strings.Repeat("w", 32)),
	} {
		e, f := Expr(text, 9)
		if f != (pos.Fault{}) || !reflect.DeepEqual(e, want) {
			t.Errorf("%s: %v, %v", text, e, f)
		}
		checkExpr(t, text)
	}
}

// P8.1: a position counts lines, too.
func TestPositions(t *testing.T) {
	e, f := Expr("\n # -\n a\n[\n i]\n+\n (\n!\n(x))", 9)
	want := ast.Expr{Kind: ast.Binary, Op: ast.Add, At: pos.Pos{Line: 6, Col: 1}, Args: []ast.Expr{
		{Kind: ast.Index, Name: "a", At: pos.Pos{Line: 3, Col: 2}, Args: []ast.Expr{{Kind: ast.Var, Name: "i", At: pos.Pos{Line: 5, Col: 2}}}},
		{Kind: ast.Unary, Op: ast.Not, At: pos.Pos{Line: 8, Col: 1}, Args: []ast.Expr{{Kind: ast.Var, Name: "x", At: pos.Pos{Line: 9, Col: 2}}}},
	}}
	if f != (pos.Fault{}) || !reflect.DeepEqual(e, want) {
		t.Errorf("%v, %v", e, f)
	}
	p, f := Parse("\nvar x # c\n;\n  proc f()\n{ }\nmain\n{\n  x\n= 1; while\n(x) {\n skip\n; } }", 9)
	wantProgram := ast.Program{
		Decls: []ast.Decl{{Kind: ast.Scalar, Name: "x", At: pos.Pos{Line: 2, Col: 1}}, {Kind: ast.Proc, Name: "f", At: pos.Pos{Line: 4, Col: 3}}},
		Main: []ast.Stmt{
			{Kind: ast.Assign, Name: "x", Exprs: []ast.Expr{{N: 1, At: pos.Pos{Line: 9, Col: 3}}}, At: pos.Pos{Line: 8, Col: 3}},
			{Kind: ast.While, Exprs: []ast.Expr{{Kind: ast.Var, Name: "x", At: pos.Pos{Line: 10, Col: 2}}}, Then: []ast.Stmt{{Kind: ast.Skip, At: pos.Pos{Line: 11, Col: 2}}}, At: pos.Pos{Line: 9, Col: 6}},
		},
	}
	if f != (pos.Fault{}) || !reflect.DeepEqual(p, wantProgram) {
		t.Errorf("%v, %v", p, f)
	}
}

// P8.1: each kind of statement, with and without what may be left out.
func TestStmts(t *testing.T) {
	for text, want := range map[string][]ast.Stmt{
		"":                     nil,
		"x = 1;":               {stmt(9, ast.Assign, "x", num(13, 1))},
		"x=-y;":                {stmt(9, ast.Assign, "x", unary(11, ast.Neg, variable(12, "y")))},
		"a[i] = v;":            {stmt(9, ast.Store, "a", variable(11, "i"), variable(16, "v"))},
		"a[b[0]]=c[1];":        {stmt(9, ast.Store, "a", index(11, "b", num(13, 0)), index(17, "c", num(19, 1)))},
		"if x { }":             {stmt(9, ast.If, "", variable(12, "x"))},
		"if (x) { } else { }":  {stmt(9, ast.If, "", variable(13, "x"))},
		"while 1 { }":          {stmt(9, ast.While, "", num(15, 1))},
		"while(1){ }":          {stmt(9, ast.While, "", num(15, 1))},
		"output x;":            {stmt(9, ast.Output, "", variable(16, "x"))},
		"output(x);":           {stmt(9, ast.Output, "", variable(16, "x"))},
		"output-x;":            {stmt(9, ast.Output, "", unary(15, ast.Neg, variable(16, "x")))},
		"call f();":            {stmt(9, ast.Call, "f")},
		"call f(x);":           {stmt(9, ast.Call, "f", variable(16, "x"))},
		"call f(x, 1, (y));":   {stmt(9, ast.Call, "f", variable(16, "x"), num(19, 1), variable(23, "y"))},
		"skip;":                {skip(9)},
		"skip; skip;":          {skip(9), skip(15)},
		"skip; x = 1; skip;":   {skip(9), stmt(15, ast.Assign, "x", num(19, 1)), skip(22)},
		"skipx = 1;":           {stmt(9, ast.Assign, "skipx", num(17, 1))},
		"Skip = IF;":           {stmt(9, ast.Assign, "Skip", variable(16, "IF"))},
		"output - x - y;":      {stmt(9, ast.Output, "", binary(20, ast.Sub, unary(16, ast.Neg, variable(18, "x")), variable(22, "y")))},
		"x = 1 + 2 * y;":       {stmt(9, ast.Assign, "x", binary(15, ast.Add, num(13, 1), binary(19, ast.Mul, num(17, 2), variable(21, "y"))))},
		"if x { skip; }":       {{Kind: ast.If, Exprs: []ast.Expr{variable(12, "x")}, Then: []ast.Stmt{skip(16)}, At: at(9)}},
		"if x{}else{skip;}":    {{Kind: ast.If, Exprs: []ast.Expr{variable(12, "x")}, Else: []ast.Stmt{skip(20)}, At: at(9)}},
		"if x{skip;}else{ }":   {{Kind: ast.If, Exprs: []ast.Expr{variable(12, "x")}, Then: []ast.Stmt{skip(14)}, At: at(9)}},
		"while x{skip;} skip;": {{Kind: ast.While, Exprs: []ast.Expr{variable(15, "x")}, Then: []ast.Stmt{skip(17)}, At: at(9)}, skip(24)},
		"if x{if y{}}else{skip;skip;}": {{Kind: ast.If, Exprs: []ast.Expr{variable(12, "x")}, Then: []ast.Stmt{stmt(14, ast.If, "", variable(17, "y"))},
			Else: []ast.Stmt{skip(26), skip(31)}, At: at(9)}},
		"if x{if y{}else{skip;}}": {{Kind: ast.If, Exprs: []ast.Expr{variable(12, "x")}, Then: []ast.Stmt{
			{Kind: ast.If, Exprs: []ast.Expr{variable(17, "y")}, Else: []ast.Stmt{skip(25)}, At: at(14)}}, At: at(9)}},
	} {
		whole := "main {  " + text + " }"
		p, f := Parse(whole, 9)
		if f != (pos.Fault{}) || !reflect.DeepEqual(p, ast.Program{Main: want}) {
			t.Errorf("%s: %v, %v", whole, p, f)
		}
		checkProgram(t, whole)
		inProc := "proc f() { " + text + " } main { }"
		if p, f = Parse(inProc, 9); f != (pos.Fault{}) || len(p.Decls) != 1 || !ast.Same(ast.Program{Main: p.Decls[0].Body}, ast.Program{Main: want}) || len(p.Main) > 0 {
			t.Errorf("%s: %v, %v", inProc, p, f)
		}
		checkProgram(t, inProc)
	}
}

// P8.1: each kind of declaration; numbers of a range behind a -, and wrapping.
func TestDecls(t *testing.T) {
	limits := func(kind ast.DeclKind, lo, hi int64) ast.Decl {
		return ast.Decl{Kind: kind, Name: "x", Lo: lo, Hi: hi, At: at(1)}
	}
	for text, want := range map[string]ast.Decl{
		"public x in [0, 3];":    limits(ast.Public, 0, 3),
		"secret x in [0, 9];":    limits(ast.Secret, 0, 9),
		"secret x in [-9, -1];":  limits(ast.Secret, -9, -1),
		"secret x in[- 9,- 0];":  limits(ast.Secret, -9, 0),
		"public x in [9, -9];":   limits(ast.Public, 9, -9),
		"public x in [-\n9, 7];": limits(ast.Public, -9, 7),
		"public x in [-9223372036854775808, 9223372036854775807];":  limits(ast.Public, math.MinInt64, math.MaxInt64),
		"secret x in [9223372036854775808, -9223372036854775807];":  limits(ast.Secret, math.MinInt64, -math.MaxInt64),
		"secret x in [-9223372036854775807, -9223372036854775808];": limits(ast.Secret, -math.MaxInt64, math.MinInt64),
		"var x;":                        {Kind: ast.Scalar, Name: "x", At: at(1)},
		"array x[0];":                   {Kind: ast.Array, Name: "x", At: at(1)},
		"array x[1024];":                {Kind: ast.Array, Name: "x", Size: 1024, At: at(1)},
		"array x[9223372036854775808];": {Kind: ast.Array, Name: "x", Size: math.MinInt64, At: at(1)},
		"proc x() { }":                  {Kind: ast.Proc, Name: "x", At: at(1)},
		"proc x(u) { }":                 {Kind: ast.Proc, Name: "x", Params: []string{"u"}, At: at(1)},
		"proc x(u, v, u) { }":           {Kind: ast.Proc, Name: "x", Params: []string{"u", "v", "u"}, At: at(1)},
		"proc x() { skip; }":            {Kind: ast.Proc, Name: "x", Body: []ast.Stmt{skip(12)}, At: at(1)},
		"proc x(u) { skip; u = 1; }":    {Kind: ast.Proc, Name: "x", Params: []string{"u"}, Body: []ast.Stmt{skip(13), stmt(19, ast.Assign, "u", num(23, 1))}, At: at(1)},
	} {
		p, f := Parse(text+" main{}", 9)
		if f != (pos.Fault{}) || !reflect.DeepEqual(p, ast.Program{Decls: []ast.Decl{want}}) {
			t.Errorf("%s: %v, %v", text, p, f)
		}
		checkProgram(t, text+" main{}")
		twice, f := Parse(text+text+"var x;main{skip;}", 9)
		if f != (pos.Fault{}) || len(twice.Decls) != 3 || !ast.Same(ast.Program{Decls: twice.Decls[1:2]}, p) || len(twice.Main) != 1 {
			t.Errorf("%s, twice: %v, %v", text, twice, f)
		}
	}
}

// binaryOps are all operators of two operands, by their texts.
func binaryOps() []string { return strings.Fields(binaryLevels) }

// P8.1: each operator within each other one, on both sides, and by each number of one operand.
func TestOperatorsWithinOperators(t *testing.T) {
	for _, a := range binaryOps() {
		for _, b := range binaryOps() {
			e, f := Expr("x "+a+" y "+b+" z", 0)
			outer, left := b, true
			if level(b) > level(a) {
				outer, left = a, false
			}
			if f != (pos.Fault{}) || e.Kind != ast.Binary || e.Op.Text() != outer || e.Op.One() || (e.Args[0].Kind == ast.Binary) != left || (e.Args[1].Kind == ast.Binary) == left {
				t.Errorf("%s, %s: %v, %v", a, b, e, f)
			}
			checkExpr(t, "x"+a+"(y"+b+"z)")
			checkExpr(t, "(x"+a+"y)"+b+"z")
			for _, c := range binaryOps() {
				checkExpr(t, "w "+a+" x "+b+" y "+c+" z")
			}
			for _, c := range []string{"-", "!", "~"} {
				checkExpr(t, c+"w "+a+c+c+" x "+b+" "+c+"y[z]")
				checkExpr(t, c+"(w "+a+" x)"+b+c+"("+c+"(y))")
			}
		}
	}
}

// eachRow goes through all rows of these words, up to so many behind a beginning, up to the first one that may not stand
// there, and those behind which the End is asked.
func eachRow(g *grammar, begin []string, words []string, most int, visit func(text string)) {
	text := strings.Join(begin, " ")
	visit(text)
	if len(begin) > 0 && most == 0 {
		return
	}
	for _, word := range words {
		tokens, _ := token.All(text + " " + word)
		if firstWrong(g, tokens[:len(tokens)-1]) < len(tokens)-1 {
			visit(text + " " + word)
			visit(text + " " + word + " ) x ; }")
			continue
		}
		eachRow(g, append(slices.Clip(begin), word), words, most-1, visit)
	}
}

// P8.1, P8.2: all short rows of tokens.
func TestExprRows(t *testing.T) {
	count := 0
	eachRow(exprs, nil, strings.Fields("x 1 - ! + * == ( ) [ ] , if"), 6, func(text string) {
		count++
		checkExpr(t, text)
	})
	if count < 10000 {
		t.Errorf("%d rows", count)
	}
}

func TestStmtRows(t *testing.T) {
	for _, words := range []string{
		"x 1 = [ ] ; - ( ) }",
		"if else x { } ; skip",
		"while x 1 { } ; skip -",
		"output x 1 - + ; }",
		"call f ( ) , x ; - }",
		"skip x ; } ) main",
	} {
		eachRow(programs, []string{"main", "{"}, strings.Fields(words), 7, func(text string) { checkProgram(t, text) })
		eachRow(programs, []string{"main", "{", "x", "=", "1", ";"}, strings.Fields(words), 5, func(text string) { checkProgram(t, text) })
	}
}

func TestDeclRows(t *testing.T) {
	for _, words := range []string{
		"public x in [ - 1 , ] ; main",
		"secret x in [ - 1 , ] ;",
		"var x ; main { }",
		"array x [ 1 - ] ;",
		"proc f ( ) , { } x main",
		"proc if f ( x ) { } ; var",
	} {
		eachRow(programs, nil, strings.Fields(words), 10, func(text string) { checkProgram(t, text) })
	}
}

// everyWord is one of each kind of token.
func everyWord() []string {
	return append(strings.Fields(keywords+" || && == != <= >= << >> < > = + - * / % & | ^ ! ~ ( ) { } [ ] , ; x 7"), "")
}

// full has each kind of declaration, statement and expression.
const full = `public p in [-3, 7]; secret s in [0, -1];
var x; array a[4]; # c
proc f() { } proc g(u, v) { a[u] = v; }
main {
  if s > -0 { call f(); } else { skip; }
  if !x { call g(x, -1); }
  while ~x && (p) { x = x - a[x + 1] * 2; output -(x); }
  skip;
}
`

// P8.1: each token left out, each one put, or in the place of another one, where it may stand or not.
func TestEachToken(t *testing.T) {
	checkProgram(t, full)
	tokens, _ := token.All(full)
	var words []string
	for _, x := range tokens[:len(tokens)-1] {
		words = append(words, x.Text)
	}
	text := func(l ...[]string) string { return strings.Join(slices.Concat(l...), " ") }
	wrong := 0
	for i := range len(words) + 1 {
		checkProgram(t, text(words[:i])) // the End, where more is asked
		for _, put := range everyWord() {
			checkProgram(t, text(words[:i], []string{put}, words[i:]))
			if i < len(words) {
				changed := text(words[:i], []string{put}, words[i+1:])
				checkProgram(t, changed)
				if _, f := Parse(changed, 99); f.Err == api.ErrParse {
					wrong++
				}
			}
		}
		if i < len(words)-1 {
			checkProgram(t, text(words[:i], []string{words[i+1], words[i]}, words[i+2:]))
		}
	}
	if wrong < 2000 {
		t.Errorf("%d wrong", wrong)
	}
	row := strings.Fields("a [ - ( b + 1 ) * c ] - ~ ! d << ( ( e ) )")
	for i := range len(row) + 1 {
		checkExpr(t, text(row[:i]))
		for _, put := range everyWord() {
			checkExpr(t, text(row[:i], []string{put}, row[i:]))
			if i < len(row) {
				checkExpr(t, text(row[:i], []string{put}, row[i+1:]))
			}
		}
	}
}

// P8.1, P8.2: faults by hand.
func TestFaults(t *testing.T) {
	for _, x := range []struct {
		text  string
		depth int
		want  pos.Fault
	}{
		{"", 9, fault(1, 1, api.ErrParse)},
		{" # c\n ", 9, fault(2, 2, api.ErrParse)},
		{"main", 9, fault(1, 5, api.ErrParse)},
		{"main {", 9, fault(1, 7, api.ErrParse)},
		{"main { } }", 9, fault(1, 10, api.ErrParse)},
		{"main { } main { }", 9, fault(1, 10, api.ErrParse)},
		{"main { } var x;", 9, fault(1, 10, api.ErrParse)},
		{"x", 9, fault(1, 1, api.ErrParse)},
		{"skip;", 9, fault(1, 1, api.ErrParse)},
		{"main { var x; }", 9, fault(1, 8, api.ErrParse)},
		{"main { x = ; }", 9, fault(1, 12, api.ErrParse)},
		{"main { x = (1); }", 1, fault(1, 12, api.ErrDepth)},
		{"main { x = (1); }", 2, pos.Fault{}},
		{"main { x = 1 2; }", 9, fault(1, 14, api.ErrParse)},
		{"main { x == 1; }", 9, fault(1, 10, api.ErrParse)},
		{"main { x(1); }", 9, fault(1, 9, api.ErrParse)},
		{"main { a[1; }", 9, fault(1, 11, api.ErrParse)},
		{"main { a[1] + 2; }", 9, fault(1, 13, api.ErrParse)},
		{"main { if x skip; }", 9, fault(1, 13, api.ErrParse)},
		{"main { else { } }", 9, fault(1, 8, api.ErrParse)},
		{"main { while x { } else { } }", 9, fault(1, 20, api.ErrParse)},
		{"main { if x { } else if y { } }", 9, fault(1, 22, api.ErrParse)},
		{"main { if { } }", 9, fault(1, 11, api.ErrParse)},
		{"main { x = in; }", 9, fault(1, 12, api.ErrParse)},
		{"main { call if(); }", 9, fault(1, 13, api.ErrParse)},
		{"main { call 1(); }", 9, fault(1, 13, api.ErrParse)},
		{"main { call f(,); }", 9, fault(1, 15, api.ErrParse)},
		{"main { call f(1 2); }", 9, fault(1, 17, api.ErrParse)},
		{"main { call f(1)", 9, fault(1, 17, api.ErrParse)},
		{"main { x = 1 + ; }", 9, fault(1, 16, api.ErrParse)},
		{"main { x = * 1; }", 9, fault(1, 12, api.ErrParse)},
		{"main { x = (1; }", 9, fault(1, 14, api.ErrParse)},
		{"main { x = 1); }", 9, fault(1, 13, api.ErrParse)},
		{"main { x = a[]; }", 9, fault(1, 14, api.ErrParse)},
		{"main { x = a[1][2]; }", 9, fault(1, 16, api.ErrParse)},
		{"main { x = (a)[2]; }", 9, fault(1, 15, api.ErrParse)},
		{"main { x = 1 ! 2; }", 9, fault(1, 14, api.ErrParse)},
		{"main { x = 1 !(", 1, fault(1, 14, api.ErrParse)}, // what may not stand there opens nothing
		{"main { (x) = 1; }", 1, fault(1, 8, api.ErrParse)},
		{"main [", 0, fault(1, 6, api.ErrParse)},
		{"public x in (0, 1); main { }", 0, fault(1, 13, api.ErrParse)},
		{"public x in [--1, 1]; main { }", 9, fault(1, 15, api.ErrParse)},
		{"public x in [!1, 1]; main { }", 9, fault(1, 14, api.ErrParse)},
		{"public x in [x, 1]; main { }", 9, fault(1, 14, api.ErrParse)},
		{"public x in [1 + 1, 2]; main { }", 9, fault(1, 16, api.ErrParse)},
		{"public x in [(1), 2]; main { }", 1, fault(1, 14, api.ErrParse)},
		{"public x in [1]; main { }", 9, fault(1, 15, api.ErrParse)},
		{"public x in [1, 2, 3]; main { }", 9, fault(1, 18, api.ErrParse)},
		{"public x; main { }", 9, fault(1, 9, api.ErrParse)},
		{"public main in [1, 2]; main { }", 9, fault(1, 8, api.ErrParse)},
		{"var x, y; main { }", 9, fault(1, 6, api.ErrParse)},
		{"var x = 1; main { }", 9, fault(1, 7, api.ErrParse)},
		{"array a; main { }", 9, fault(1, 8, api.ErrParse)},
		{"array a[x]; main { }", 9, fault(1, 9, api.ErrParse)},
		{"array a[]; main { }", 9, fault(1, 9, api.ErrParse)},
		{"array a[-1]; main { }", 9, fault(1, 9, api.ErrParse)},
		{"proc f { } main { }", 9, fault(1, 8, api.ErrParse)},
		{"proc f(1) { } main { }", 9, fault(1, 8, api.ErrParse)},
		{"proc f(x,) { } main { }", 9, fault(1, 10, api.ErrParse)},
		{"proc f(x y) { } main { }", 9, fault(1, 10, api.ErrParse)},
		{"proc f(var) { } main { }", 9, fault(1, 8, api.ErrParse)},
		{"proc f() { }; main { }", 9, fault(1, 13, api.ErrParse)},
		{"proc main() { } main { }", 9, fault(1, 6, api.ErrParse)},
		{"proc f() skip; main { }", 9, fault(1, 10, api.ErrParse)},
		// a fault of the tokens is that of the text, ahead of one of the parsing, and behind it
		{"main { x = 1 @ 2; y = ; }", 9, fault(1, 14, api.ErrChar)},
		{"main { y = ; x = 1 @ 2; }", 9, fault(1, 20, api.ErrChar)},
		{"main { y = ; x = 007; }", 0, fault(1, 18, api.ErrNumber)},
		{"main { y = 9223372036854775809; }", -1, fault(1, 12, api.ErrNumber)},
		{"; ; ;\n " + strings.Repeat("w", 33), 9, fault(2, 2, api.ErrWord)},
		{"$", 9, fault(1, 1, api.ErrChar)},
		// a fault of the depth, and one of the parsing: the first one
		{"main { x = (1; }", 1, fault(1, 12, api.ErrDepth)},
		{"main { x = ; y = (1); }", 1, fault(1, 12, api.ErrParse)},
		{"main { x = (1); y = ; }", 1, fault(1, 12, api.ErrDepth)},
		{"main { x = (1); y = ; }", 2, fault(1, 21, api.ErrParse)},
		{"main { ( }", 0, fault(1, 6, api.ErrDepth)},
		{"main { ( }", 1, fault(1, 8, api.ErrParse)},
		{"x main { }", 0, fault(1, 1, api.ErrParse)},
		// what is open
		{"main { }", 1, pos.Fault{}},
		{"main { }", 0, fault(1, 6, api.ErrDepth)},
		{"main { }", -1, fault(1, 6, api.ErrDepth)},
		{"main { }", math.MinInt, fault(1, 6, api.ErrDepth)},
		{"main { }", math.MaxInt, pos.Fault{}},
		{"var x; main { }", -1, fault(1, 13, api.ErrDepth)},
		{"public p in [-1, -2]; main { }", 1, pos.Fault{}}, // the - of a range opens nothing
		{"public p in [-1, -2]; main { }", 0, fault(1, 13, api.ErrDepth)},
		{"array a[1]; main { }", 0, fault(1, 8, api.ErrDepth)},
		{"proc f() { } main { }", 0, fault(1, 7, api.ErrDepth)},
		{"proc f() { } main { }", 1, pos.Fault{}},
		{"main { x = -1; }", 1, fault(1, 12, api.ErrDepth)},
		{"main { x = - -1; }", 2, fault(1, 14, api.ErrDepth)},
		{"main { x = - -1; }", 3, pos.Fault{}},
		{"main { x = -1 - -1 - -1; }", 2, pos.Fault{}}, // an operand ends ahead of an operator of two
		{"main { x = -a[-1] * (2); }", 4, pos.Fault{}},
		{"main { x = -a[-1] * (2); }", 3, fault(1, 15, api.ErrDepth)},
		{"main { x = -a[1] * (2); }", 2, fault(1, 14, api.ErrDepth)}, // it is amid the operand
		{"main { x = -(1) * (2); }", 3, pos.Fault{}},
		{"main { x = -(1) * (2); }", 2, fault(1, 13, api.ErrDepth)},
		{"main { x = (-1) * (2); }", 2, fault(1, 13, api.ErrDepth)},
		{"main { x = (1) * (2); }", 2, pos.Fault{}},
		{"main { a[-1] = -1; }", 3, pos.Fault{}},
		{"main { a[-1] = -1; }", 2, fault(1, 10, api.ErrDepth)},
		{"main { a[1] = --1; }", 2, fault(1, 16, api.ErrDepth)},
		{"main { call f(-1, -1); }", 2, fault(1, 15, api.ErrDepth)},
		{"main { call f(-1, -1); }", 3, pos.Fault{}},
		{"main { if -x { skip; } }", 2, pos.Fault{}}, // an operand ends ahead of a block
		{"main { if !x { if !x { } } }", 2, fault(1, 19, api.ErrDepth)},
		{"main { if x { } else { } }", 2, pos.Fault{}},
		{"main { if x { } else { } }", 1, fault(1, 13, api.ErrDepth)},
		{"main { if x { } else { y = -1; } }", 2, fault(1, 28, api.ErrDepth)},
		{"main { while -x[-1] { } }", 4, pos.Fault{}},
		{"main { while -x[-1] { } }", 3, fault(1, 17, api.ErrDepth)},
	} {
		p, f := Parse(x.text, x.depth)
		if f != x.want || f.Err != api.OK && !reflect.DeepEqual(p, ast.Program{}) {
			t.Errorf("%s, %d: %v, %v", x.text, x.depth, p, f)
		}
		checkProgram(t, x.text)
	}
}

// P8.1: faults of expressions alone.
func TestExprFaults(t *testing.T) {
	for _, x := range []struct {
		text  string
		depth int
		want  pos.Fault
	}{
		{"", 9, fault(1, 1, api.ErrParse)},
		{"\n ", 9, fault(2, 2, api.ErrParse)},
		{"x;", 9, fault(1, 2, api.ErrParse)},
		{"x = 1", 9, fault(1, 3, api.ErrParse)},
		{"x y", 9, fault(1, 3, api.ErrParse)},
		{"x, y", 9, fault(1, 2, api.ErrParse)},
		{"main", 9, fault(1, 1, api.ErrParse)},
		{"(x", 9, fault(1, 3, api.ErrParse)},
		{"x)", 9, fault(1, 2, api.ErrParse)},
		{"-", 9, fault(1, 2, api.ErrParse)},
		{"x -", 9, fault(1, 4, api.ErrParse)},
		{"x + )", 9, fault(1, 5, api.ErrParse)},
		{"x @", 9, fault(1, 3, api.ErrChar)},
		{"x x 00", 9, fault(1, 5, api.ErrNumber)},
		{") " + strings.Repeat("w", 33), -1, fault(1, 3, api.ErrWord)},
		{"x", 0, pos.Fault{}},
		{"x", -1, pos.Fault{}}, // nothing is opened
		{"1 + x", math.MinInt, pos.Fault{}},
		{"-x", -1, fault(1, 1, api.ErrDepth)},
		{"1-x", 0, pos.Fault{}},
		{"1--x", 0, fault(1, 3, api.ErrDepth)},
		{"1--x", 1, pos.Fault{}},
		{"(x)", 0, fault(1, 1, api.ErrDepth)},
		{"a[x]", 0, fault(1, 2, api.ErrDepth)},
		{"a[x]", 1, pos.Fault{}},
		{"a(x)", 0, fault(1, 2, api.ErrParse)},
		{"-a[x]", 1, fault(1, 3, api.ErrDepth)},
		{"!~-a", 2, fault(1, 3, api.ErrDepth)},
		{"!~-a", 3, pos.Fault{}},
		{"!~-a + (1)", 3, pos.Fault{}},
		{"!~-(a)", 3, fault(1, 4, api.ErrDepth)},
	} {
		e, f := Expr(x.text, x.depth)
		if f != x.want || f.Err != api.OK && !reflect.DeepEqual(e, ast.Expr{}) {
			t.Errorf("%s, %d: %v, %v", x.text, x.depth, e, f)
		}
		checkExpr(t, x.text)
	}
}

// P8.2: how deep texts nest.
func TestNest(t *testing.T) {
	for text, want := range map[string]int{
		"main { }":                               1,
		"main { skip; }":                         1,
		"main { x = 1 + 2; }":                    1,
		"main { x = -1; }":                       2,
		"main { x = -1 + -1; }":                  2,
		"main { x = - - !1; }":                   4,
		"main { x = -(-1); }":                    4,
		"main { x = ((1)) + (((2))); }":          4,
		"main { x = a[1] + a[a[1]]; }":           3,
		"main { a[a[-1]] = 1; }":                 4,
		"main { call f((1), -(2)); }":            4,
		"main { call f(); }":                     2,
		"main { if x { } }":                      2,
		"main { if x { } else { while x { } } }": 3,
		"main { while -x { } }":                  2,
		"main { while -x { y = -x; } }":          3,
		"public p in [-1, -1]; main { }":         1,
		"array a[1]; main { }":                   1,
		"proc f(x) { x = (-1); } main { }":       3,
		"proc f(x) { } main { x = (1); }":        2,
		full:                                     4,
	} {
		if n, f := Nest(text); n != want || f != (pos.Fault{}) {
			t.Errorf("%s: %d, %v", text, n, f)
		}
		checkProgram(t, text)
	}
	for text, want := range map[string]pos.Fault{
		"":                     fault(1, 1, api.ErrParse),
		"1":                    fault(1, 1, api.ErrParse),
		"main { x = (1) }":     fault(1, 16, api.ErrParse),
		"main { x = ((1); }":   fault(1, 16, api.ErrParse),
		"main { } (":           fault(1, 10, api.ErrParse),
		"main { x = (1); } @":  fault(1, 19, api.ErrChar),
		"main { x = ((((00 ; ": fault(1, 16, api.ErrNumber),
	} {
		if n, f := Nest(text); n != 0 || f != want {
			t.Errorf("%s: %d, %v", text, n, f)
		}
	}
}

// P8.1, P8.2, P8.4: many made programs: as chapter 7 writes them, with more brackets, blanks and comments, changed, and
// with tokens that are none.
func TestManyPrograms(t *testing.T) {
	n := numbers(8)
	most, faults := 0, map[api.Errno]int{}
	for range 1500 {
		p := n.program()
		text := pretty.Program(p)
		nests, f := Nest(text)
		if f.Err != api.OK {
			t.Fatalf("%s: %v", text, f)
		}
		most = max(most, nests)
		checkProgram(t, text)
		if q, f := Parse(text, nests); f != (pos.Fault{}) || !ast.Same(p, q) || pretty.Program(q) != text {
			t.Errorf("%s: %v", text, f)
		}
		if _, f := Parse(text, nests-1); f.Err != api.ErrDepth {
			t.Errorf("%s: depth %d: %v", text, nests-1, f)
		}
		words := n.programWords(p)
		text = n.laid(words)
		checkProgram(t, text)
		if q, f := Parse(text, 99); f != (pos.Fault{}) || !ast.Same(p, q) {
			t.Errorf("%s: %v", text, f)
		}
		for range 3 {
			text = n.laid(n.changed(words))
			checkProgram(t, text)
			_, f := Parse(text, 3)
			faults[f.Err]++
		}
	}
	if most < 7 || faults[api.OK] < 100 || faults[api.ErrParse] < 500 || faults[api.ErrDepth] < 200 || faults[api.ErrChar]+faults[api.ErrNumber]+faults[api.ErrWord] < 200 {
		t.Error(most, faults)
	}
}

// changed are these words with a few that are others, left out, or moved; or with one that is no token.
func (n *numbers) changed(words []string) []string {
	words = slices.Clone(words)
	for range 1 + n.below(2) {
		i, j := n.below(len(words)), n.below(len(words))
		switch n.below(6) {
		case 0:
			words[i] = words[j]
		case 1:
			words[i], words[j] = words[j], words[i]
		case 2:
			words = append(slices.Delete(words, i, i+1), "x")
		case 3:
			words = slices.Insert(words, i, one(n, everyWord()...))
		case 4:
			words[i] = one(n, everyWord()...)
		case 5:
			words[i] = one(n, words[i], words[i], "@", "007", strings.Repeat("w", 33))
		}
	}
	return words
}

// P8.1: many made expressions.
func TestManyExprs(t *testing.T) {
	n := numbers(88)
	for range 4000 {
		e := n.expr(5)
		text := pretty.Expr(e)
		if d, f := Expr(text, 99); f != (pos.Fault{}) || !ast.SameExpr(d, e) {
			t.Errorf("%s: %v", text, f)
		}
		if len(text) > 150 {
			continue
		}
		checkExpr(t, text)
		words := n.exprWords(e, n.below(2) == 0)
		text = n.laid(words)
		checkExpr(t, text)
		if d, f := Expr(text, 99); f != (pos.Fault{}) || !ast.SameExpr(d, e) {
			t.Errorf("%s: %v", text, f)
		}
		checkExpr(t, n.laid(n.changed(words)))
	}
}

// P8.3: what is answered hangs neither on what was handed in nor on another answer.
func TestNew(t *testing.T) {
	bytes := []byte(full)
	lent := unsafe.String(&bytes[0], len(bytes))
	p, f := Parse(lent, 9)
	q, _ := Parse(lent, 9)
	row := []byte("a[x] + y * -z")
	e, _ := Expr(unsafe.String(&row[0], len(row)), 9)
	d, _ := Expr(unsafe.String(&row[0], len(row)), 9)
	if string(bytes) != full || f.Err != api.OK {
		t.Fatal(string(bytes), f)
	}
	clear(bytes)
	clear(row)
	want, _ := Parse(full, 9)
	wantExpr, _ := Expr("a[x] + y * -z", 9)
	if !reflect.DeepEqual(p, want) || !reflect.DeepEqual(e, wantExpr) {
		t.Error("an answer hangs on the text that was handed in")
	}
	seen := map[uintptr]bool{}
	writeOver(t, reflect.ValueOf(&p).Elem(), seen)
	writeOver(t, reflect.ValueOf(&e).Elem(), seen)
	if !reflect.DeepEqual(q, want) || !reflect.DeepEqual(d, wantExpr) {
		t.Error("an answer hangs on another one")
	}
	if len(seen) < 40 {
		t.Error(len(seen))
	}
	writeOver(t, reflect.ValueOf(&q).Elem(), seen)
	writeOver(t, reflect.ValueOf(&d).Elem(), seen)
}

// writeOver writes over a tree, and what lies behind its lists, and tells lists' items that were met already.
func writeOver(t *testing.T, v reflect.Value, seen map[uintptr]bool) {
	switch v.Kind() {
	case reflect.Struct:
		for i := range v.NumField() {
			writeOver(t, v.Field(i), seen)
		}
		return
	case reflect.Slice:
		all := v.Slice(0, v.Cap())
		for i := range all.Len() {
			if place := all.Index(i).Addr().Pointer(); seen[place] {
				t.Error("two lists share memory")
			} else {
				seen[place] = true
			}
			writeOver(t, all.Index(i), seen)
		}
	}
	v.SetZero()
}

// P8.1, P8.2: texts that nest deep, by each kind of bracket, and by operators.
func TestDeep(t *testing.T) {
	const deep = 9990
	for _, x := range []struct{ ahead, open, amid, closed, behind string }{
		{"main { x = ", "(", "1", ")", "; }"},
		{"main { x = ", "a[", "1", "]", "; }"},
		{"main { x = ", "-", "1", "", "; }"},
		{"main { x = ", "! ", "x[1]", "", "; }"},
		{"main { a[", "~ ", "1", "", "] = 0; }"},
		{"main { call f(", "1 + (", "1", ") - 2", "); }"},
		{"main { ", "while 1 { ", "skip; ", "} ", "}"},
		{"main { ", "if 1 { } else { ", "", "} ", "}"},
		{"proc f() { ", "if 1 { ", "", "} else { skip; }", "} main { }"},
	} {
		ahead := strings.Repeat(x.open, deep)
		text := x.ahead + ahead + x.amid + strings.Repeat(x.closed, deep) + x.behind
		nests, f := Nest(text)
		if f != (pos.Fault{}) || nests < deep+1 || nests > deep+3 {
			t.Fatalf("%s: %d, %v", x.open, nests, f)
		}
		p, f := Parse(text, nests)
		if f != (pos.Fault{}) || !ast.Right(p) {
			t.Errorf("%s: %v", x.open, f)
		}
		if p, f = Parse(text, nests-1); f.Err != api.ErrDepth || !reflect.DeepEqual(p, ast.Program{}) {
			t.Errorf("%s: %v", x.open, f)
		}
		if n, f := Nest(x.ahead + ahead); n != 0 || f != fault(1, len(x.ahead+ahead)+1, api.ErrParse) {
			t.Errorf("%s: %d, %v", x.open, n, f)
		}
		if _, f := Parse(x.ahead+strings.Repeat(x.open, 200000), 100); f.Err != api.ErrDepth || f.At.Col > len(x.ahead)+101*len(x.open) {
			t.Errorf("%s, without end: %v", x.open, f)
		}
	}
}

// P8.1: long texts, in due time.
func TestLong(t *testing.T) {
	const many = 100000
	text := strings.Repeat("var x; proc f(a, b) { skip; } ", many) + "main { " + strings.Repeat("x = -1 * (x + 1); if x { skip; } ", many) + "}"
	p, f := Parse(text, 3)
	if f != (pos.Fault{}) || len(p.Decls) != 2*many || len(p.Main) != 2*many {
		t.Errorf("%d, %d, %v", len(p.Decls), len(p.Main), f)
	}
	p, f = Parse("main { call f(1"+strings.Repeat(", -x", many)+"); }", 3)
	if f != (pos.Fault{}) || len(p.Main[0].Exprs) != many+1 {
		t.Error(f)
	}
	p, f = Parse("proc f(x"+strings.Repeat(", x", many)+") { } main { }", 3)
	if f != (pos.Fault{}) || len(p.Decls[0].Params) != many+1 {
		t.Error(f)
	}
	for _, op := range binaryOps() {
		e, f := Expr("x"+strings.Repeat(op+"x", 9999), 0)
		deep := 1
		for ; e.Kind == ast.Binary; e = e.Args[0] {
			deep++
		}
		if f != (pos.Fault{}) || deep != 10000 {
			t.Errorf("%s: %d, %v", op, deep, f)
		}
	}
	text = strings.Repeat("# "+strconv.Itoa(many)+"\n", many)
	if p, f = Parse(text+"main { }", 1); f != (pos.Fault{}) || len(p.Decls)+len(p.Main) != 0 {
		t.Error(f)
	}
	if _, f = Parse(text, 1); f != fault(many+1, 1, api.ErrParse) {
		t.Error(f)
	}
}

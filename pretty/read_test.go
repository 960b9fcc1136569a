package pretty

import (
	"slices"
	"strings"
	"testing"

	"sieveholes/api"
	"sieveholes/ast"
	"sieveholes/pos"
	"sieveholes/token"
)

// Texts are held against their own tokens: these are read back, and laid out again.

// checkText is about the text of a program that is right.
func checkText(t *testing.T, p ast.Program) {
	t.Helper()
	s := Program(p)
	tokens, f := token.All(s)
	if f.Err != api.OK || !slices.ContainsFunc(tokens, func(x token.Token) bool { return x.Text == "main" }) {
		t.Fatalf("no tokens: %v: %s", f, s)
	}
	for _, x := range tokens {
		if !token.Right(x) {
			t.Errorf("%v is not right: %s", x, s)
		}
	}
	if !bracketsFit(tokens) {
		t.Errorf("brackets do not fit: %s", s)
	}
	if q, ok := read(tokens); !ok || !ast.Same(p, q) {
		t.Errorf("it is read as %v, %t: %s", q, ok, s)
	}
	if want := laidOut(tokens); s != want {
		t.Errorf("%s; want %s", s, want)
	}
	for _, fewer := range withoutBrackets(tokens) {
		if q, ok := read(fewer); ok && ast.Same(p, q) {
			t.Errorf("without a pair of round brackets it would be the same: %s", s)
		}
	}
}

func bracketsFit(tokens []token.Token) bool {
	var open []string
	for _, x := range tokens {
		switch x.Text {
		case "(", "[", "{":
			open = append(open, x.Text)
		case ")", "]", "}":
			if len(open) == 0 || !slices.Contains([]string{"()", "[]", "{}"}, open[len(open)-1]+x.Text) {
				return false
			}
			open = open[:len(open)-1]
		}
	}
	return len(open) == 0
}

// withoutBrackets are rows of tokens, each without one pair of round brackets that stands about an operand.
func withoutBrackets(tokens []token.Token) [][]token.Token {
	var all [][]token.Token
	for i, x := range tokens {
		if x.Text != "(" || ast.Name(tokens[i-1].Text) {
			continue
		}
		open, partner := 1, i
		for open > 0 {
			partner++
			switch tokens[partner].Text {
			case "(":
				open++
			case ")":
				open--
			}
		}
		all = append(all, slices.Concat(tokens[:i], tokens[i+1:partner], tokens[partner+1:]))
	}
	return all
}

// laidOut is the text that a program with these tokens has.
func laidOut(tokens []token.Token) string {
	var s strings.Builder
	blocks := 0
	begins := true // a line
	for i, x := range tokens[:len(tokens)-1] {
		if x.Text == "}" {
			blocks--
		}
		if begins {
			s.WriteString(strings.Repeat("  ", blocks))
		} else if blankBetween(tokens[:i], x.Text) {
			s.WriteString(" ")
		}
		s.WriteString(x.Text)
		if x.Text == "{" {
			blocks++
		}
		begins = x.Text == ";" || x.Text == "{" || x.Text == "}" && tokens[i+1].Text != "else"
		if begins {
			s.WriteString("\n")
		}
	}
	return s.String()
}

// blankBetween tells whether a blank stands between these tokens and the next one on their line.
func blankBetween(ahead []token.Token, next string) bool {
	last := ahead[len(ahead)-1].Text
	switch next {
	case ")", "]", ",", ";":
		return false
	case "(", "[":
		if ast.Name(last) {
			return false
		}
	}
	switch last {
	case "(", "[", "!", "~":
		return false
	case "-":
		before := ahead[len(ahead)-2]
		return before.Kind == token.Int || ast.Name(before.Text) || before.Text == ")" || before.Text == "]"
	}
	return true
}

// reader reads a program out of its tokens; it panics, where they are none's.
type reader struct{ left []token.Token }

func read(tokens []token.Token) (p ast.Program, ok bool) {
	defer func() {
		if recover() != nil {
			p, ok = ast.Program{}, false
		}
	}()
	r := reader{tokens}
	for r.left[0].Text != "main" {
		p.Decls = append(p.Decls, r.decl())
	}
	r.take("main")
	p.Main = r.block()
	return p, r.left[0].Kind == token.End
}

func (r *reader) one() token.Token {
	x := r.left[0]
	r.left = r.left[1:]
	return x
}

func (r *reader) take(texts ...string) {
	for _, text := range texts {
		if r.one().Text != text {
			panic(text)
		}
	}
}

// ahead tells whether that is the next token, and takes it, if it is.
func (r *reader) ahead(text string) bool {
	if r.left[0].Text != text {
		return false
	}
	r.one()
	return true
}

func (r *reader) name() string {
	x := r.one()
	if x.Kind != token.Word || !ast.Name(x.Text) {
		panic(x.Text)
	}
	return x.Text
}

func (r *reader) number() int64 {
	x := r.one()
	if x.Kind != token.Int {
		panic(x.Text)
	}
	return x.N
}

func (r *reader) signed() int64 {
	if r.ahead("-") {
		return -r.number()
	}
	return r.number()
}

func (r *reader) decl() (d ast.Decl) {
	kind := slices.Index([]string{"public", "secret", "var", "array", "proc"}, r.one().Text)
	d.Kind, d.Name = ast.DeclKind(kind), r.name()
	switch d.Kind {
	case ast.Public, ast.Secret:
		r.take("in", "[")
		d.Lo = r.signed()
		r.take(",")
		d.Hi = r.signed()
		r.take("]", ";")
	case ast.Scalar:
		r.take(";")
	case ast.Array:
		r.take("[")
		d.Size = r.number()
		r.take("]", ";")
	case ast.Proc:
		r.row(func() { d.Params = append(d.Params, r.name()) })
		d.Body = r.block()
	default:
		panic(kind)
	}
	return d
}

// row reads what stands in round brackets, with commas between.
func (r *reader) row(one func()) {
	r.take("(")
	if r.ahead(")") {
		return
	}
	one()
	for r.ahead(",") {
		one()
	}
	r.take(")")
}

func (r *reader) block() (l []ast.Stmt) {
	r.take("{")
	for !r.ahead("}") {
		l = append(l, r.stmt())
	}
	return l
}

func (r *reader) stmt() (s ast.Stmt) {
	expr := func() { s.Exprs = append(s.Exprs, r.expr(0)) }
	s.Kind = ast.StmtKind(slices.Index([]string{"", "", "if", "while", "output", "call", "skip"}, r.left[0].Text))
	if s.Kind >= 0 {
		r.one()
	}
	switch s.Kind {
	case ast.If, ast.While:
		expr()
		s.Then = r.block()
		if s.Kind == ast.If && r.ahead("else") {
			s.Else = r.block()
		}
		return s
	case ast.Output:
		expr()
	case ast.Call:
		s.Name = r.name()
		r.row(expr)
	case ast.Skip:
	default:
		s.Kind, s.Name = ast.Assign, r.name()
		if r.ahead("[") {
			s.Kind = ast.Store
			expr()
			r.take("]")
		}
		r.take("=")
		expr()
	}
	r.take(";")
	return s
}

// expr reads an expression whose operators, outside of brackets, are of that level at least.
func (r *reader) expr(level int) ast.Expr {
	e := r.operand()
	for {
		found := false
		eachBinary(func(o ast.Op, text string, own int) {
			if !found && r.left[0].Text == text && own >= level {
				found = true
				r.one()
				e = binary(o, e, r.expr(own+1))
			}
		})
		if !found {
			return e
		}
	}
}

func (r *reader) operand() ast.Expr {
	for i, text := range []string{"-", "!", "~"} {
		if r.ahead(text) {
			return unary(ast.Neg+ast.Op(i), r.operand())
		}
	}
	if r.ahead("(") {
		e := r.expr(0)
		r.take(")")
		return e
	}
	if r.left[0].Kind == token.Int {
		return num(r.number())
	}
	name := r.name()
	if !r.ahead("[") {
		return variable(name)
	}
	e := r.expr(0)
	r.take("]")
	return index(name, e)
}

// numbers are told one after the other, always the same ones.
type numbers uint64

func (n *numbers) below(limit int) int {
	*n = *n*6364136223846793005 + 1442695040888963407
	return int(uint64(*n>>33) % uint64(limit))
}

// number is one that may stand in a tree.
func (n *numbers) number() int64 {
	return []int64{0, 1, 7, 1024, 1<<63 - 1, -1 << 63}[n.below(6)]
}

func (n *numbers) name() string {
	return []string{"x", "y", "t", "f", "x1", "iff", "_", "Main"}[n.below(8)]
}

func (n *numbers) expr(deep int) ast.Expr {
	kinds := 5
	if deep == 0 {
		kinds = 2
	}
	e := ast.Expr{Kind: ast.ExprKind(n.below(kinds)), At: pos.Pos{Line: n.below(9), Col: n.below(9)}}
	switch e.Kind {
	case ast.Num:
		e.N = n.number()
	case ast.Var:
		e.Name = n.name()
	case ast.Index:
		e.Name, e.Args = n.name(), n.exprs(deep-1, 1)
	case ast.Unary:
		e.Op, e.Args = ast.Neg+ast.Op(n.below(3)), n.exprs(deep-1, 1)
	case ast.Binary:
		e.Op, e.Args = ast.Op(n.below(18)), n.exprs(deep-1, 2)
	}
	return e
}

func (n *numbers) exprs(deep, count int) (l []ast.Expr) {
	for range count {
		l = append(l, n.expr(deep))
	}
	return l
}

func (n *numbers) stmts(deep int) (l []ast.Stmt) {
	for range n.below(4) {
		s := ast.Stmt{Kind: ast.StmtKind(n.below(7)), At: pos.Pos{Line: n.below(9), Col: n.below(9)}}
		switch s.Kind {
		case ast.Assign, ast.Store:
			s.Name, s.Exprs = n.name(), n.exprs(3, 1+int(s.Kind))
		case ast.If, ast.While, ast.Output:
			s.Exprs = n.exprs(3, 1)
		case ast.Call:
			s.Name, s.Exprs = n.name(), n.exprs(2, n.below(4))
		}
		if deep > 0 && (s.Kind == ast.If || s.Kind == ast.While) {
			s.Then = n.stmts(deep - 1)
		}
		if deep > 0 && s.Kind == ast.If {
			s.Else = n.stmts(deep - 1)
		}
		l = append(l, s)
	}
	return l
}

func (n *numbers) decls() (l []ast.Decl) {
	for range n.below(4) {
		d := ast.Decl{Kind: ast.DeclKind(n.below(5)), Name: n.name(), At: pos.Pos{Line: n.below(9), Col: n.below(9)}}
		switch d.Kind {
		case ast.Public, ast.Secret:
			d.Lo, d.Hi = n.number()-int64(n.below(3)), n.number()
		case ast.Array:
			d.Size = n.number()
		case ast.Proc:
			for range n.below(4) {
				d.Params = append(d.Params, n.name())
			}
			d.Body = n.stmts(1)
		}
		l = append(l, d)
	}
	return l
}

// P7.1, P7.3: many programs. Those that have the same text are the same ones, wherever their parts stand.
func TestManyPrograms(t *testing.T) {
	n := numbers(7)
	met := map[string]ast.Program{}
	again := 0
	for range 3000 {
		p := ast.Program{Decls: n.decls(), Main: n.stmts(2)}
		checkText(t, p)
		s := Program(p)
		if q, ok := met[s]; ok {
			again++
			if !ast.Same(p, q) {
				t.Errorf("two programs: %s", s)
			}
		}
		met[s] = p
		tokens, _ := token.All(s)
		if q, ok := read(tokens); !ok || Program(q) != s { // the reader tells no positions
			t.Errorf("without positions it is another text: %s", s)
		}
		inner := pos.Lines(Stmts(p.Main...)) // behind the last byte 10 there is one more
		if want := lines(within("main {", inner[:len(inner)-1], "}")...); !strings.HasSuffix(s, want) {
			t.Errorf("%s; want at its end: %s", s, want)
		}
	}
	if again < 20 || len(met) < 2000 {
		t.Error(again, len(met))
	}
}

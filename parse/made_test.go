package parse

import (
	"slices"
	"strconv"
	"strings"

	"sieveholes/ast"
	"sieveholes/token"
)

// numbers are told one after the other, always the same ones.
type numbers uint64

func (n *numbers) below(limit int) int {
	*n = *n*6364136223846793005 + 1442695040888963407
	return int(uint64(*n>>33) % uint64(limit))
}

func one[T any](n *numbers, l ...T) T { return l[n.below(len(l))] }

// number is one that may stand in a tree.
func (n *numbers) number() int64 { return one[int64](n, 0, 1, 7, 1024, 1<<63-1, -1<<63) }

func (n *numbers) name() string {
	return one(n, "x", "y", "t", "f", "x1", "iff", "_", "Main", strings.Repeat("z", 32))
}

func (n *numbers) expr(deep int) ast.Expr {
	kinds := 5
	if deep == 0 {
		kinds = 2
	}
	e := ast.Expr{Kind: ast.ExprKind(n.below(kinds))}
	switch e.Kind {
	case ast.Num:
		e.N = n.number()
	case ast.Var:
		e.Name = n.name()
	case ast.Index:
		e.Name, e.Args = n.name(), n.exprs(deep-1, 1)
	case ast.Unary:
		e.Op, e.Args = ast.Neg+ast.Op(n.below(3)), n.exprs(deep-1, 1)
	case ast.Binary:
		e.Op, e.Args = ast.Op(n.below(18)), n.exprs(deep-1, 2)
	}
	return e
}

func (n *numbers) exprs(deep, count int) (l []ast.Expr) {
	for range count {
		l = append(l, n.expr(deep))
	}
	return l
}

func (n *numbers) stmts(deep int) (l []ast.Stmt) {
	for range n.below(4) {
		s := ast.Stmt{Kind: ast.StmtKind(n.below(7))}
		switch s.Kind {
		case ast.Assign, ast.Store:
			s.Name, s.Exprs = n.name(), n.exprs(3, 1+int(s.Kind))
		case ast.If, ast.While, ast.Output:
			s.Exprs = n.exprs(3, 1)
		case ast.Call:
			s.Name, s.Exprs = n.name(), n.exprs(2, n.below(4))
		}
		if deep > 0 && (s.Kind == ast.If || s.Kind == ast.While) {
			s.Then = n.stmts(deep - 1)
		}
		if deep > 0 && s.Kind == ast.If {
			s.Else = n.stmts(deep - 1)
		}
		l = append(l, s)
	}
	return l
}

func (n *numbers) decls() (l []ast.Decl) {
	for range n.below(4) {
		d := ast.Decl{Kind: ast.DeclKind(n.below(5)), Name: n.name()}
		switch d.Kind {
		case ast.Public, ast.Secret:
			d.Lo, d.Hi = n.number()-int64(n.below(3)), n.number()
		case ast.Array:
			d.Size = n.number()
		case ast.Proc:
			for range n.below(4) {
				d.Params = append(d.Params, n.name())
			}
			d.Body = n.stmts(1)
		}
		l = append(l, d)
	}
	return l
}

func (n *numbers) program() ast.Program {
	return ast.Program{Decls: n.decls(), Main: n.stmts(2)}
}

// A program's texts are many: there may be more brackets, blanks and comments than are asked for.

// exprWords are the tokens of an expression. Each part of it stands in round brackets, if it must, and sometimes, if it
// need not.
func (n *numbers) exprWords(e ast.Expr, must bool) []string {
	if must && e.Kind == ast.Binary || n.below(6) == 0 {
		return slices.Concat([]string{"("}, n.exprWords(e, false), []string{")"})
	}
	switch e.Kind {
	case ast.Num:
		return []string{strconv.FormatUint(uint64(e.N), 10)}
	case ast.Var:
		return []string{e.Name}
	case ast.Index:
		return slices.Concat([]string{e.Name, "["}, n.exprWords(e.Args[0], false), []string{"]"})
	case ast.Unary:
		return append([]string{e.Op.Text()}, n.exprWords(e.Args[0], true)...)
	}
	return slices.Concat(n.exprWords(e.Args[0], true), []string{e.Op.Text()}, n.exprWords(e.Args[1], true))
}

func (n *numbers) row(l []ast.Expr) []string {
	words := []string{"("}
	for i, e := range l {
		if i > 0 {
			words = append(words, ",")
		}
		words = append(words, n.exprWords(e, false)...)
	}
	return append(words, ")")
}

func (n *numbers) block(l []ast.Stmt) []string {
	words := []string{"{"}
	for _, s := range l {
		words = append(words, n.stmtWords(s)...)
	}
	return append(words, "}")
}

func (n *numbers) stmtWords(s ast.Stmt) []string {
	expr := func(i int) []string { return n.exprWords(s.Exprs[i], false) }
	end := []string{";"}
	switch s.Kind {
	case ast.Assign:
		return slices.Concat([]string{s.Name, "="}, expr(0), end)
	case ast.Store:
		return slices.Concat([]string{s.Name, "["}, expr(0), []string{"]", "="}, expr(1), end)
	case ast.If:
		words := slices.Concat([]string{"if"}, expr(0), n.block(s.Then))
		if len(s.Else) > 0 || n.below(2) == 0 {
			words = append(append(words, "else"), n.block(s.Else)...)
		}
		return words
	case ast.While:
		return slices.Concat([]string{"while"}, expr(0), n.block(s.Then))
	case ast.Output:
		return slices.Concat([]string{"output"}, expr(0), end)
	case ast.Call:
		return slices.Concat([]string{"call", s.Name}, n.row(s.Exprs), end)
	}
	return append([]string{"skip"}, end...)
}

// rangeWords are the tokens of a number of a range. That of the least number may have a - ahead, or none.
func (n *numbers) rangeWords(x int64) []string {
	if x >= 0 || x == -x && n.below(2) == 0 {
		return []string{strconv.FormatUint(uint64(x), 10)}
	}
	return []string{"-", strconv.FormatUint(uint64(-x), 10)}
}

func (n *numbers) declWords(d ast.Decl) []string {
	words := []string{[]string{"public", "secret", "var", "array", "proc"}[d.Kind], d.Name}
	switch d.Kind {
	case ast.Public, ast.Secret:
		words = slices.Concat(words, []string{"in", "["}, n.rangeWords(d.Lo), []string{","}, n.rangeWords(d.Hi), []string{"]"})
	case ast.Array:
		words = append(words, "[", strconv.FormatUint(uint64(d.Size), 10), "]")
	case ast.Proc:
		words = append(append(append(words, "("), withCommas(d.Params)...), ")")
		return append(words, n.block(d.Body)...)
	}
	return append(words, ";")
}

func (n *numbers) programWords(p ast.Program) []string {
	var words []string
	for _, d := range p.Decls {
		words = append(words, n.declWords(d)...)
	}
	return append(append(words, "main"), n.block(p.Main)...)
}

// laid is a text of these tokens, with blanks and comments between.
func (n *numbers) laid(words []string) string {
	var text strings.Builder
	last := ""
	for _, word := range words {
		between := one(n, " ", " ", " ", "\n", "\r\n", "\t", "  \n  ", "# c\n", " # } ( -\n#\n ", "")
		if between == "" && last != "" && !parted(last, word) {
			between = " "
		}
		text.WriteString(between + word)
		last = word
	}
	return text.String() + one(n, "", " ", "\n", "#")
}

// parted tells whether two tokens stay what they are, if nothing stands between.
func parted(a, b string) bool {
	tokens, f := token.All(a + b)
	return f.Err == 0 && len(tokens) == 3 && tokens[0].Text == a && tokens[1].Text == b
}

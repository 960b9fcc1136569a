package parse

import (
	"slices"
	"strconv"
	"strings"

	"sieveholes/api"
	"sieveholes/ast"
	"sieveholes/pos"
	"sieveholes/token"
)

// Which tokens may stand where is told by the chapter's own rules: all ways in which they may fit are kept side by side,
// token by token. What is open is told by a stack, what a text says by parting it where it binds least. Nothing of this
// goes down from rule to rule, as a parser does.

// rules are the chapter's, with what may be left out written out. The first word is what the others may make; name, int
// and end stand for tokens, and so does each word by which no line begins.
const rules = `
program decls main block
program main block
decls decl
decls decls decl
decl public name in [ sint , sint ] ;
decl secret name in [ sint , sint ] ;
decl var name ;
decl array name [ int ] ;
decl proc name ( ) block
decl proc name ( names ) block
names name
names names , name
sint int
sint - int
block { }
block { stmts }
stmts stmt
stmts stmts stmt
stmt name = expr ;
stmt name [ expr ] = expr ;
stmt if expr block
stmt if expr block else block
stmt while expr block
stmt output expr ;
stmt call name ( ) ;
stmt call name ( exprs ) ;
stmt skip ;
exprs expr
exprs exprs , expr
expr expr op expr
expr one expr
expr int
expr name
expr name [ expr ]
expr ( expr )
`

const binaryLevels = "||\n&&\n== !=\n< <= > >=\n| ^\n&\n<< >>\n+ -\n* / %" // a line each, from the least on

const keywords = "array call else if in main output proc public secret skip var while"

// part is how far a rule is met that began behind so many tokens.
type part struct{ rule, met, from int }

// parts are all that may fit behind so many tokens; wants tells which of them go on by that word.
type parts struct {
	list  []part
	wants map[string][]part
}

// grammar tells which tokens may stand behind those that it was told.
type grammar struct {
	made   map[string][]int // rules
	words  [][]string       // what each rule asks for
	behind []parts          // each token, and ahead of the first one
}

// newGrammar is one of texts that are one of these, and an end.
func newGrammar(top string) *grammar {
	g := &grammar{made: map[string][]int{}}
	for line := range strings.Lines(strings.TrimSpace(rules) + "\nwhole " + top + " end\n") {
		g.rule(strings.Fields(line))
	}
	for _, text := range strings.Fields(binaryLevels) {
		g.rule([]string{"op", text})
	}
	for _, text := range []string{"-", "!", "~"} {
		g.rule([]string{"one", text})
	}
	g.behind = []parts{{wants: map[string][]part{}}}
	for _, r := range g.made["whole"] {
		g.adds(part{rule: r})
	}
	return g
}

func (g *grammar) rule(line []string) {
	g.made[line[0]] = append(g.made[line[0]], len(g.words))
	g.words = append(g.words, line)
}

// adds adds a part to the last ones, and those that begin there, or are met, by it. (No rule is met by no token.)
func (g *grammar) adds(p part) {
	last := &g.behind[len(g.behind)-1]
	if slices.Contains(last.list, p) {
		return
	}
	last.list = append(last.list, p)
	words := g.words[p.rule]
	if p.met == len(words)-1 {
		for _, q := range slices.Clone(g.behind[p.from].wants[words[0]]) {
			g.adds(part{q.rule, q.met + 1, q.from})
		}
		return
	}
	word := words[p.met+1]
	last.wants[word] = append(last.wants[word], p)
	for _, r := range g.made[word] {
		g.adds(part{rule: r, from: len(g.behind) - 1})
	}
}

// goesOn tells whether that token may stand there, and goes on behind it, if it may.
func (g *grammar) goesOn(t token.Token) bool {
	ahead := g.behind[len(g.behind)-1].wants[class(t)]
	if len(ahead) == 0 {
		return false
	}
	g.behind = append(g.behind, parts{wants: map[string][]part{}})
	for _, p := range ahead {
		g.adds(part{p.rule, p.met + 1, p.from})
	}
	return true
}

// goesBack forgets what was told behind so many tokens.
func (g *grammar) goesBack(count int) { g.behind = g.behind[:count+1] }

func class(t token.Token) string {
	switch {
	case t.Kind == token.End:
		return "end"
	case t.Kind == token.Int:
		return "int"
	case isName(t):
		return "name"
	}
	return t.Text
}

func isName(t token.Token) bool {
	return t.Kind == token.Word && !slices.Contains(strings.Fields(keywords), t.Text)
}

// firstWrong is the number of the first token that may not stand there; as many as there are, if all may.
func firstWrong(g *grammar, tokens []token.Token) int {
	g.goesBack(0)
	for i, t := range tokens {
		if !g.goesOn(t) {
			return i
		}
	}
	return len(tokens)
}

// openBehind tells how many are open behind each token, if that opens anything, and else 0. All tokens may stand there.
func openBehind(tokens []token.Token) []int {
	count := make([]int, len(tokens))
	var open []string
	endsOperand := func() {
		for len(open) > 0 && open[len(open)-1] == "one" {
			open = open[:len(open)-1]
		}
	}
	for i, t := range tokens {
		text := func(i int) string {
			if i < 0 || i >= len(tokens) {
				return ""
			}
			return tokens[i].Text
		}
		opens := ""
		switch t.Text {
		case "[":
			opens = "["
			if text(i-1) == "in" {
				opens = "range"
			}
		case "(", "{":
			opens = t.Text
		case "-", "!", "~":
			if (i == 0 || !endsAny(tokens[i-1])) && (len(open) == 0 || open[len(open)-1] != "range") {
				opens = "one"
			}
		case ")", "]", "}":
			open = open[:len(open)-1]
			endsOperand()
		default:
			if t.Kind == token.Int || isName(t) && text(i+1) != "[" {
				endsOperand()
			}
		}
		if opens != "" {
			open = append(open, opens)
			count[i] = len(open)
		}
	}
	return count
}

// endsAny tells whether that may be an operand's last token.
func endsAny(t token.Token) bool {
	return t.Kind == token.Int || isName(t) || t.Text == ")" || t.Text == "]"
}

// oracle tells the faults of one text.
type oracle struct {
	tokens []token.Token
	fault  pos.Fault // at any depth
	open   []int     // behind each token ahead of the fault that opens anything
}

func newOracle(g *grammar, text string) oracle {
	tokens, f := token.All(text)
	if f.Err != api.OK {
		return oracle{fault: f}
	}
	o := oracle{tokens: tokens}
	wrong := firstWrong(g, tokens)
	if wrong < len(tokens) {
		o.fault = pos.Fault{At: tokens[wrong].At, Err: api.ErrParse}
	}
	o.open = openBehind(tokens[:wrong])
	return o
}

// nests tells how deep the text nests, up to its fault.
func (o oracle) nests() int { return slices.Max(append(o.open, 0)) }

// at is the fault, if so many may be open.
func (o oracle) at(depth int) pos.Fault {
	for i, open := range o.open {
		if open > 0 && open > depth {
			return pos.Fault{At: o.tokens[i].At, Err: api.ErrDepth}
		}
	}
	return o.fault
}

// grouped is what an expression's tokens say, each operator with its operands in round brackets, all with positions.
func grouped(row []token.Token) string {
	if i := loosest(row); i > 0 {
		return "(" + grouped(row[:i]) + " " + placed(row[i].Text, row[i].At) + " " + grouped(row[i+1:]) + ")"
	}
	switch first := row[0]; {
	case first.Text == "-" || first.Text == "!" || first.Text == "~":
		return "(" + placed(first.Text, first.At) + " " + grouped(row[1:]) + ")"
	case first.Text == "(":
		return grouped(row[1 : len(row)-1])
	case len(row) > 1:
		return placed(first.Text, first.At) + "[" + grouped(row[2:len(row)-1]) + "]"
	default:
		return placed(first.Text, first.At)
	}
}

// loosest is the number of the operator of two operands, outside of brackets, that binds least: the last one of these.
// It is 0, if there is none.
func loosest(row []token.Token) int {
	found, least, brackets := 0, 99, 0
	for i, t := range row {
		switch t.Text {
		case "(", "[":
			brackets++
		case ")", "]":
			brackets--
		}
		if l := level(t.Text); l > 0 && l <= least && brackets == 0 && i > 0 && endsAny(row[i-1]) {
			found, least = i, l
		}
	}
	return found
}

// level is that of an operator of two operands, and else 0.
func level(text string) int {
	for i, line := range strings.Split(binaryLevels, "\n") {
		if slices.Contains(strings.Fields(line), text) {
			return i + 1
		}
	}
	return 0
}

func placed(text string, at pos.Pos) string { return text + "@" + at.Text() }

// said is what the tokens of a program say, one by one.
func said(tokens []token.Token) string {
	var out []string
	inCall, begun := false, -1 // begun: the number of the last statement's first token
	for i := 0; i < len(tokens); i++ {
		t := tokens[i]
		last := ""
		if i > 0 {
			last = tokens[i-1].Text
		}
		switch {
		case t.Kind == token.End, t.Text == "main":
			out = append(out, t.Text)
		case strings.Contains(" public secret var array proc ", " "+t.Text+" "):
			out = append(out, placed(t.Text, t.At))
			for i++; tokens[i].Text != ";" && tokens[i].Text != "{"; i++ {
				out = append(out, headWord(tokens[i], tokens[i-1])...)
			}
			i--
		case t.Text == "else" && tokens[i+2].Text == "}":
			i += 2
		case (last == ";" || last == "{" || last == "}") && t.Kind == token.Word && t.Text != "else":
			out = append(out, placed(t.Text, t.At))
			inCall, begun = t.Text == "call", i
		case strings.Contains(" = if while output ", " "+last+" "), last == "[" && begun == i-2, inCall && last == "," || inCall && last == "(" && begun == i-3 && t.Text != ")":
			end := exprEnd(tokens, i)
			out = append(out, grouped(tokens[i:end]))
			i = end - 1
		default:
			out = append(out, t.Text)
		}
	}
	return strings.Join(out, " ")
}

// headWord is what a token says in a declaration's head.
func headWord(t, last token.Token) []string {
	switch {
	case t.Text == "-":
		return nil
	case t.Kind == token.Int && last.Text == "-":
		return []string{strconv.FormatInt(0-t.N, 10)}
	case t.Kind == token.Int:
		return []string{strconv.FormatInt(t.N, 10)}
	}
	return []string{t.Text}
}

// exprEnd is the number of the first token behind an expression.
func exprEnd(tokens []token.Token, begin int) int {
	brackets := 0
	for i := begin; ; i++ {
		switch tokens[i].Text {
		case "(", "[":
			brackets++
		case ")", "]":
			brackets--
		}
		if brackets < 0 || brackets == 0 && strings.Contains(" ; , { ", " "+tokens[i].Text+" ") {
			return i
		}
	}
}

// What follows tells of trees what the tokens say.

func toldExpr(e ast.Expr) string {
	switch e.Kind {
	case ast.Num:
		return placed(strconv.FormatUint(uint64(e.N), 10), e.At)
	case ast.Var:
		return placed(e.Name, e.At)
	case ast.Index:
		return placed(e.Name, e.At) + "[" + toldExpr(e.Args[0]) + "]"
	case ast.Unary:
		return "(" + placed(e.Op.Text(), e.At) + " " + toldExpr(e.Args[0]) + ")"
	}
	return "(" + toldExpr(e.Args[0]) + " " + placed(e.Op.Text(), e.At) + " " + toldExpr(e.Args[1]) + ")"
}

func toldStmts(l []ast.Stmt) []string {
	out := []string{"{"}
	for _, s := range l {
		out = append(out, toldStmt(s)...)
	}
	return append(out, "}")
}

func toldStmt(s ast.Stmt) []string {
	word := func(text string) string { return placed(text, s.At) }
	var exprs []string
	for _, e := range s.Exprs {
		exprs = append(exprs, toldExpr(e))
	}
	switch s.Kind {
	case ast.Assign:
		return []string{word(s.Name), "=", exprs[0], ";"}
	case ast.Store:
		return []string{word(s.Name), "[", exprs[0], "]", "=", exprs[1], ";"}
	case ast.If:
		out := append([]string{word("if"), exprs[0]}, toldStmts(s.Then)...)
		if len(s.Else) > 0 {
			out = append(append(out, "else"), toldStmts(s.Else)...)
		}
		return out
	case ast.While:
		return append([]string{word("while"), exprs[0]}, toldStmts(s.Then)...)
	case ast.Output:
		return []string{word("output"), exprs[0], ";"}
	case ast.Call:
		return slices.Concat([]string{word("call"), s.Name, "("}, withCommas(exprs), []string{")", ";"})
	}
	return []string{word("skip"), ";"}
}

func withCommas(l []string) (out []string) {
	for i, s := range l {
		if i > 0 {
			out = append(out, ",")
		}
		out = append(out, s)
	}
	return out
}

func toldDecl(d ast.Decl) []string {
	word := placed([]string{"public", "secret", "var", "array", "proc"}[d.Kind], d.At)
	number := func(n int64) string { return strconv.FormatInt(n, 10) }
	switch d.Kind {
	case ast.Scalar:
		return []string{word, d.Name, ";"}
	case ast.Array:
		return []string{word, d.Name, "[", number(d.Size), "]", ";"}
	case ast.Proc:
		return slices.Concat([]string{word, d.Name, "("}, withCommas(d.Params), []string{")"}, toldStmts(d.Body))
	}
	return []string{word, d.Name, "in", "[", number(d.Lo), ",", number(d.Hi), "]", ";"}
}

func told(p ast.Program) string {
	var out []string
	for _, d := range p.Decls {
		out = append(out, toldDecl(d)...)
	}
	out = append(append(out, "main"), toldStmts(p.Main)...)
	return strings.Join(append(out, ""), " ")
}

package ast

import "sieveholes/api"

// Op is an operator.
type Op int

// Operators: up to Rem they have two operands, from Neg on one.
const (
	Or Op = iota
	And
	Eq
	Ne
	Lt
	Le
	Gt
	Ge
	BitOr
	Xor
	BitAnd
	Shl
	Shr
	Add
	Sub
	Mul
	Div
	Rem
	Neg
	Not
	Inv
)

var texts = [...]string{
	Or: "||", And: "&&",
	Eq: "==", Ne: "!=", Lt: "<", Le: "<=", Gt: ">", Ge: ">=",
	BitOr: "|", Xor: "^", BitAnd: "&", Shl: "<<", Shr: ">>",
	Add: "+", Sub: "-", Mul: "*", Div: "/", Rem: "%",
	Neg: "-", Not: "!", Inv: "~",
}

var levels = [...]int{
	Or: 1, And: 2,
	Eq: 3, Ne: 3, Lt: 4, Le: 4, Gt: 4, Ge: 4,
	BitOr: 5, Xor: 5, BitAnd: 6, Shl: 7, Shr: 7,
	Add: 8, Sub: 8, Mul: 9, Div: 9, Rem: 9,
	Neg: 10, Not: 10, Inv: 10,
}

var keywords = [...]string{
	"array", "call", "else", "if", "in", "main", "output", "proc", "public", "secret", "skip", "var", "while",
}

// Text is an operator's text; of no operator nothing.
func (o Op) Text() string {
	if !o.known() {
		return ""
	}
	return texts[o]
}

// Level tells how tight an operator binds; of no operator 0.
func (o Op) Level() int {
	if !o.known() {
		return 0
	}
	return levels[o]
}

// One tells whether this is an operator of one operand.
func (o Op) One() bool { return o >= Neg && o <= Inv }

func (o Op) known() bool { return o >= Or && o <= Inv }

// Operator is the operator with that text, of one operand or of two.
func Operator(text string, one bool) (Op, bool) {
	for i, t := range texts {
		if o := Op(i); t == text && o.One() == one {
			return o, true
		}
	}
	return 0, false
}

// Keywords are all of them, in the order of the alphabet.
func Keywords() []string {
	own := keywords
	return own[:]
}

// Word tells whether it is one: a letter or _, and then letters, digits and _, few enough.
func Word(s string) bool {
	if s == "" || len(s) > api.MaxName || isDigit(s[0]) {
		return false
	}
	for _, b := range []byte(s) {
		if !isLetter(b) && !isDigit(b) {
			return false
		}
	}
	return true
}

// Name tells whether it is one: a word that is no keyword.
func Name(s string) bool {
	for _, k := range keywords {
		if s == k {
			return false
		}
	}
	return Word(s)
}

func isLetter(b byte) bool { return 'a' <= b && b <= 'z' || 'A' <= b && b <= 'Z' || b == '_' }

func isDigit(b byte) bool { return '0' <= b && b <= '9' }

package ast

import (
	"iter"
	"strings"
)

// use is what a statement does with a name.
type use int

const (
	reads use = iota
	writes
	calls
)

// Reads are the names that the statements' expressions read, as they stand first.
func Reads(l ...Stmt) []string { return named(l, reads) }

// Writes are the names that the statements assign, or store into, as they stand first.
func Writes(l ...Stmt) []string { return named(l, writes) }

// Calls are the procedures that the statements call, as they stand first.
func Calls(l ...Stmt) []string { return named(l, calls) }

// named are the names that are used so, once each.
func named(l []Stmt, wanted use) []string {
	var names []string
	met := map[string]struct{}{}
	for how, name := range uses(l) {
		if how != wanted {
			continue
		}
		if _, again := met[name]; again {
			continue
		}
		met[name] = struct{}{}
		names = append(names, strings.Clone(name))
	}
	return names
}

// uses goes over all that statements name, from left to right.
func uses(l []Stmt) iter.Seq2[use, string] {
	return func(yield func(use, string) bool) { stmtUses(l, yield) }
}

// stmtUses tells whether there may be more. (One yield goes all the way down: were each block ranged over by the one
// about it, deep trees would take time by the square.)
func stmtUses(l []Stmt, yield func(use, string) bool) bool {
	for _, s := range l {
		if how, ok := stmtUse(s.Kind); ok && !yield(how, s.Name) {
			return false
		}
		if !exprUses(s.Exprs, yield) || !stmtUses(s.Then, yield) || !stmtUses(s.Else, yield) {
			return false
		}
	}
	return true
}

// stmtUse is what a statement of that kind does with its own name.
func stmtUse(k StmtKind) (use, bool) {
	switch k {
	case Assign, Store:
		return writes, true
	case Call:
		return calls, true
	}
	return 0, false
}

func exprUses(l []Expr, yield func(use, string) bool) bool {
	for _, e := range l {
		if (e.Kind == Var || e.Kind == Index) && !yield(reads, e.Name) {
			return false
		}
		if !exprUses(e.Args, yield) {
			return false
		}
	}
	return true
}

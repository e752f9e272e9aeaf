package tree

import (
	"iter"

	"bobbin/api"
)

// part is a statement or an expression: the one that it is not is nil.
type part struct {
	stmt  *api.Stmt
	expr  *api.Expr
	depth int // of a declaration's own statements 1; of what is in another part one more than that
}

// parts tells all statements and expressions of declarations, each ahead of what is in it.
func parts(l []api.Decl) iter.Seq[part] {
	return func(yield func(part) bool) {
		for i := range l {
			if !eachStmt(l[i].Body, 1, yield) {
				return
			}
		}
	}
}

// partsOf tells an expression and all that is in it, each ahead of what is in it.
func partsOf(e api.Expr) iter.Seq[part] {
	return func(yield func(part) bool) { eachExpr([]api.Expr{e}, 1, yield) }
}

// eachStmt tells statements and what is in them, and answers no, if yield wants no more.
// It hands its own yield on, as eachExpr does: if one iterator ranged over another one,
// each part would go through as many yields as it is deep.
func eachStmt(l []api.Stmt, depth int, yield func(part) bool) bool {
	for i := range l {
		s := &l[i]
		if !yield(part{stmt: s, depth: depth}) || !eachExpr(s.E, depth+1, yield) ||
			!eachStmt(s.Body, depth+1, yield) || !eachStmt(s.Else, depth+1, yield) {
			return false
		}
	}
	return true
}

// eachExpr tells expressions and what is in them, and answers no, if yield wants no more.
func eachExpr(l []api.Expr, depth int, yield func(part) bool) bool {
	for i := range l {
		e := &l[i]
		if !yield(part{expr: e, depth: depth}) || !eachExpr(e.Args, depth+1, yield) {
			return false
		}
	}
	return true
}

// all says whether something holds of all that is told.
func all[T any](told iter.Seq[T], holds func(T) bool) bool {
	for x := range told {
		if !holds(x) {
			return false
		}
	}
	return true
}

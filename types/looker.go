package types

import (
	"maps"

	"bobbin/api"
)

// fault is what is thrown at what is wrong first.
type fault struct {
	at  int
	err api.Errno
}

// refuse throws that something is wrong.
func refuse(at int, err api.Errno) { panic(fault{at, err}) }

// kind is a type.
type kind uint8

const (
	number kind = 1 + iota
	truth
)

// looker goes through a program, from the left.
type looker struct {
	program  []api.Decl
	decls    map[string]int // each declaration's number
	exprs    [api.Or + 1]func(*looker, api.Expr) kind
	stmts    [api.Return + 1]func(*looker, api.Stmt)
	calls    [][]int             // the declarations that each one calls, each of them once
	at       int                 // the declaration whose Body is looked at
	declared map[string]struct{} // its local ones up to here, of whatever block
	known    map[string]kind     // those of them that are known here
	last     bool                // whether what is looked at is the last statement of a func's Body
}

// look tells what is wrong first in what may be a program.
func look(program []api.Decl) (at int, err api.Errno) {
	defer func() {
		switch x := recover().(type) {
		case nil:
		case fault:
			at, err = x.at, x.err
		default:
			panic(x)
		}
	}()
	l := &looker{
		program: program,
		decls:   map[string]int{},
		exprs:   exprAsks(),
		stmts:   stmtAsks(),
		calls:   make([][]int, len(program)),
	}
	l.names()
	for i := range program {
		l.decl(i)
	}
	l.circles()
	return 0, api.OK
}

// names looks at the declarations' names.
func (l *looker) names() {
	for i, d := range l.program {
		if _, twice := l.decls[d.Name]; twice {
			refuse(d.At, api.ErrName)
		}
		l.decls[d.Name] = i
	}
}

// decl looks at a declaration's parameters and its Body.
func (l *looker) decl(i int) {
	d := l.program[i]
	l.at, l.declared, l.known = i, map[string]struct{}{}, map[string]kind{}
	for _, name := range d.Params {
		l.declare(name, number, d.At)
	}
	l.list(d.Body, d.Kind == api.Func)
}

// list looks at statements: of all that a func's Body has, or of others.
func (l *looker) list(stmts []api.Stmt, whole bool) {
	for i, s := range stmts {
		l.last = whole && i == len(stmts)-1
		l.stmts[s.Kind](l, s)
	}
}

// block looks at statements, behind which their local ones are known no longer.
func (l *looker) block(stmts []api.Stmt) {
	outer := l.known
	l.known = maps.Clone(outer)
	l.list(stmts, false)
	l.known = outer
}

// declare makes a local one known.
func (l *looker) declare(name string, k kind, at int) {
	_, local := l.declared[name]
	if _, global := l.decls[name]; local || global {
		refuse(at, api.ErrName)
	}
	l.declared[name] = struct{}{}
	l.known[name] = k
}

// find finds the declaration of a name, which has to be of a Kind.
func (l *looker) find(name string, declKind uint8, at int) int {
	i, ok := l.decls[name]
	if _, local := l.known[name]; !ok && !local {
		refuse(at, api.ErrName)
	}
	if !ok || l.program[i].Kind != declKind {
		refuse(at, api.ErrType)
	}
	return i
}

// variable is the type of a local one, or of a global one.
func (l *looker) variable(name string, at int) kind {
	if k, local := l.known[name]; local {
		return k
	}
	l.find(name, api.Global, at)
	return number
}

// circles looks whether a func calls itself, by whatever way.
func (l *looker) circles() {
	for i, d := range l.program {
		if l.returns(i) {
			refuse(d.At, api.ErrLoop)
		}
	}
}

// returns says whether calls lead from a declaration back to it.
func (l *looker) returns(start int) bool {
	met := make([]bool, len(l.program))
	left := []int{start}
	for len(left) > 0 {
		from := left[len(left)-1]
		left = left[:len(left)-1]
		for _, to := range l.calls[from] {
			if to == start {
				return true
			}
			if !met[to] {
				met[to] = true
				left = append(left, to)
			}
		}
	}
	return false
}

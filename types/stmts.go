package types

import (
	"slices"

	"bobbin/api"
)

// stmtAsks are what each Kind of statements asks.
func stmtAsks() [api.Return + 1]func(*looker, api.Stmt) {
	return [...]func(*looker, api.Stmt){
		api.Let:    (*looker).let,
		api.Set:    (*looker).set,
		api.Put:    (*looker).put,
		api.If:     (*looker).branch,
		api.While:  (*looker).branch,
		api.With:   (*looker).with,
		api.Print:  (*looker).print,
		api.Call:   (*looker).call,
		api.Return: (*looker).leave,
	}
}

func (l *looker) let(s api.Stmt) {
	e := s.E[0]
	l.declare(s.Name, l.exprs[e.Kind](l, e), s.At)
}

func (l *looker) set(s api.Stmt) { l.want(l.variable(s.Name, s.At), s.E...) }

func (l *looker) put(s api.Stmt) {
	l.find(s.Name, api.Array, s.At)
	l.want(number, s.E...)
}

// branch is of an If, and of a While, which has no Else.
func (l *looker) branch(s api.Stmt) {
	l.want(truth, s.E...)
	l.block(s.Body)
	l.block(s.Else)
}

func (l *looker) with(s api.Stmt) {
	l.find(s.Name, api.Lock, s.At)
	l.block(s.Body)
}

func (l *looker) print(s api.Stmt) { l.want(number, s.E...) }

func (l *looker) call(s api.Stmt) {
	callee := l.find(s.Name, api.Func, s.At)
	if len(l.program[callee].Params) != len(s.E) {
		refuse(s.At, api.ErrType)
	}
	if !slices.Contains(l.calls[l.at], callee) {
		l.calls[l.at] = append(l.calls[l.at], callee)
	}
	l.want(number, s.E...)
	switch {
	case s.New:
		l.declare(s.To, number, s.At)
	case s.To != "":
		l.answer(s)
	}
}

// answer looks at the local one that becomes a call's answer.
func (l *looker) answer(s api.Stmt) {
	k, local := l.known[s.To]
	if _, global := l.decls[s.To]; !local && !global {
		refuse(s.At, api.ErrName)
	}
	if k != number {
		refuse(s.At, api.ErrType)
	}
}

func (l *looker) leave(s api.Stmt) {
	if !l.last {
		refuse(s.At, api.ErrType)
	}
	l.want(number, s.E...)
}

package types

import "bobbin/api"

// exprAsks are what each Kind of expressions asks, of which it answers its type.
func exprAsks() [api.Or + 1]func(*looker, api.Expr) kind {
	return [...]func(*looker, api.Expr) kind{
		api.Int:    (*looker).sum,
		api.Bool:   (*looker).logic,
		api.Var:    (*looker).named,
		api.Index:  (*looker).cell,
		api.Neg:    (*looker).sum,
		api.Not:    (*looker).logic,
		api.Add:    (*looker).sum,
		api.Sub:    (*looker).sum,
		api.Mul:    (*looker).sum,
		api.Div:    (*looker).sum,
		api.Mod:    (*looker).sum,
		api.Less:   (*looker).compare,
		api.LessEq: (*looker).compare,
		api.Equal:  (*looker).compare,
		api.Unlike: (*looker).compare,
		api.And:    (*looker).logic,
		api.Or:     (*looker).logic,
	}
}

// want looks at expressions that have to be of a type.
func (l *looker) want(k kind, exprs ...api.Expr) {
	for _, e := range exprs {
		if l.exprs[e.Kind](l, e) != k {
			refuse(e.At, api.ErrType)
		}
	}
}

// sum asks for numbers, of which a number is made; of none by an Int.
func (l *looker) sum(e api.Expr) kind {
	l.want(number, e.Args...)
	return number
}

// compare asks for numbers, of which a truth is made.
func (l *looker) compare(e api.Expr) kind {
	l.want(number, e.Args...)
	return truth
}

// logic asks for truths, of which a truth is made; of none by a Bool.
func (l *looker) logic(e api.Expr) kind {
	l.want(truth, e.Args...)
	return truth
}

func (l *looker) named(e api.Expr) kind { return l.variable(e.Name, e.At) }

func (l *looker) cell(e api.Expr) kind {
	l.find(e.Name, api.Array, e.At)
	l.want(number, e.Args...)
	return number
}

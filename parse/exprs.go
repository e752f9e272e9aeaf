package parse

import "bobbin/api"

// How strongly operators bind.
const (
	byOr = 1 + iota
	byAnd
	byCompare
	bySum
	byTerm
)

// operator is a sign between two expressions.
type operator struct {
	sign  string
	kind  uint8
	binds int
	turns bool // its sides change places
}

var operators = [...]operator{
	{sign: "||", kind: api.Or, binds: byOr},
	{sign: "&&", kind: api.And, binds: byAnd},
	{sign: "<", kind: api.Less, binds: byCompare},
	{sign: "<=", kind: api.LessEq, binds: byCompare},
	{sign: "==", kind: api.Equal, binds: byCompare},
	{sign: "!=", kind: api.Unlike, binds: byCompare},
	{sign: ">", kind: api.Less, binds: byCompare, turns: true},
	{sign: ">=", kind: api.LessEq, binds: byCompare, turns: true},
	{sign: "+", kind: api.Add, binds: bySum},
	{sign: "-", kind: api.Sub, binds: bySum},
	{sign: "*", kind: api.Mul, binds: byTerm},
	{sign: "/", kind: api.Div, binds: byTerm},
	{sign: "%", kind: api.Mod, binds: byTerm},
}

// operator is the one that is next; it binds 0, if there is none.
func (r *reader) operator() operator {
	for _, o := range operators {
		if r.text() == o.sign {
			return o
		}
	}
	return operator{}
}

// expr reads an expression.
func (r *reader) expr() api.Expr { return r.joined(byOr) }

// joined reads an expression that is joined by operators that bind as strongly as least, or more.
// All strengths are read by this one, not each by one of its own, so that brackets within brackets,
// of which a text may have as many as bytes, need little room each.
func (r *reader) joined(least int) api.Expr {
	left, most := r.unary(), byTerm
	for {
		o := r.operator()
		if o.binds < least || o.binds > most {
			return left
		}
		at := r.at()
		r.next++
		left = o.join(left, r.joined(o.binds+1), at)
		// What binds more was read on the right side; a second comparison may not stand behind the first one.
		most = o.binds
		if o.binds == byCompare {
			most--
		}
	}
}

// join is what an operator at a place makes of what stands on its sides.
func (o operator) join(left, right api.Expr, at int) api.Expr {
	if o.turns {
		left, right = right, left
	}
	return api.Expr{Kind: o.kind, Args: []api.Expr{left, right}, At: at}
}

// unary reads an expression that no operator joins.
func (r *reader) unary() api.Expr {
	at := r.at()
	switch {
	case r.passes("-"):
		return api.Expr{Kind: api.Neg, Args: []api.Expr{r.unary()}, At: at}
	case r.passes("!"):
		return api.Expr{Kind: api.Not, Args: []api.Expr{r.unary()}, At: at}
	}
	return r.atom()
}

// atom reads an expression that begins by no operator.
func (r *reader) atom() api.Expr {
	t := r.tokens[r.next]
	switch {
	case t.Kind == api.Number:
		return api.Expr{Kind: api.Int, N: r.number(""), At: t.At}
	case r.passes("true"):
		return api.Expr{Kind: api.Bool, N: 1, At: t.At}
	case r.passes("false"):
		return api.Expr{Kind: api.Bool, At: t.At}
	case r.passes("("):
		e := r.expr()
		r.take(")")
		return e
	}
	name := r.name()
	if !r.passes("[") {
		return api.Expr{Kind: api.Var, Name: name, At: t.At}
	}
	place := r.expr()
	r.take("]")
	return api.Expr{Kind: api.Index, Name: name, Args: []api.Expr{place}, At: t.At}
}

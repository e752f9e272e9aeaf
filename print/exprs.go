package print

import (
	"strconv"

	"bobbin/api"
)

// How strongly Kinds bind.
const (
	byOr = 1 + iota
	byAnd
	byCompare
	bySum
	byTerm
	byUnary
	byNone // no operator does
)

// kind is how strongly a Kind binds, and its sign, if it has one.
type kind struct {
	binds int
	sign  string
}

var kinds = [...]kind{
	api.Int:    {binds: byNone},
	api.Bool:   {binds: byNone},
	api.Var:    {binds: byNone},
	api.Index:  {binds: byNone},
	api.Neg:    {binds: byUnary, sign: "-"},
	api.Not:    {binds: byUnary, sign: "!"},
	api.Add:    {binds: bySum, sign: "+"},
	api.Sub:    {binds: bySum, sign: "-"},
	api.Mul:    {binds: byTerm, sign: "*"},
	api.Div:    {binds: byTerm, sign: "/"},
	api.Mod:    {binds: byTerm, sign: "%"},
	api.Less:   {binds: byCompare, sign: "<"},
	api.LessEq: {binds: byCompare, sign: "<="},
	api.Equal:  {binds: byCompare, sign: "=="},
	api.Unlike: {binds: byCompare, sign: "!="},
	api.And:    {binds: byAnd, sign: "&&"},
	api.Or:     {binds: byOr, sign: "||"},
}

// expr puts an expression.
func (put text) expr(e api.Expr) {
	k := kinds[e.Kind]
	switch e.Kind {
	case api.Int:
		put(strconv.FormatInt(e.N, 10))
	case api.Bool:
		put(strconv.FormatBool(e.N == 1))
	case api.Var:
		put(e.Name)
	case api.Index:
		put(e.Name, "[")
		put.expr(e.Args[0])
		put("]")
	case api.Neg, api.Not:
		put(k.sign)
		put.arg(e.Args[0], k.binds)
	default:
		least := k.binds
		// No comparison stands beside another one, not even as the first Arg.
		if least == byCompare {
			least++
		}
		put.arg(e.Args[0], least)
		put(" ", k.sign, " ")
		put.arg(e.Args[1], k.binds+1)
	}
}

// arg puts an Arg, in ( ), if what binds it is weaker than least.
func (put text) arg(e api.Expr, least int) {
	if kinds[e.Kind].binds >= least {
		put.expr(e)
		return
	}
	put("(")
	put.expr(e)
	put(")")
}

package print_test

import (
	"math"
	"slices"
	"strings"

	"bobbin/api"
)

var longName = strings.Repeat("N", api.MaxName)

func number(n int64) api.Expr { return api.Expr{Kind: api.Int, N: n} }
func truth(n int64) api.Expr  { return api.Expr{Kind: api.Bool, N: n} }
func named(s string) api.Expr { return api.Expr{Kind: api.Var, Name: s} }
func index(s string, e api.Expr) api.Expr {
	return api.Expr{Kind: api.Index, Name: s, Args: []api.Expr{e}}
}
func unary(kind uint8, e api.Expr) api.Expr     { return api.Expr{Kind: kind, Args: []api.Expr{e}} }
func binary(kind uint8, a, b api.Expr) api.Expr { return api.Expr{Kind: kind, Args: []api.Expr{a, b}} }

func threadOf(l ...api.Stmt) []api.Decl { return []api.Decl{{Kind: api.Thread, Name: "t", Body: l}} }
func printOf(e api.Expr) api.Stmt       { return api.Stmt{Kind: api.Print, E: []api.Expr{e}} }
func list(e ...api.Expr) []api.Expr     { return e }
func body(s ...api.Stmt) []api.Stmt     { return s }

// leaves are expressions without Args, the least and the greatest ones among them.
func leaves() []api.Expr {
	return []api.Expr{number(0), number(7), number(math.MaxInt64), truth(0), truth(1), named("x"), named("_"), named(longName), named("iff")}
}

// around are an expression's places: each Kind that has Args, with it at each of them, and a Var at the other one.
func around(e api.Expr) []api.Expr {
	out := []api.Expr{index("a", e), unary(api.Neg, e), unary(api.Not, e)}
	for kind := api.Add; kind <= api.Or; kind++ {
		out = append(out, binary(kind, e, named("c")), binary(kind, named("c"), e))
	}
	return out
}

// nested are expressions of every Kind within every other one, at each place, as many within one another as asked.
func nested(deep int) []api.Expr {
	if deep == 0 {
		return []api.Expr{named("x")}
	}
	var out []api.Expr
	for _, e := range nested(deep - 1) {
		out = append(out, around(e)...)
	}
	return out
}

// exprs are expressions of all Kinds: alone, within one another, and two of them within a third one.
func exprs() []api.Expr {
	out := slices.Concat(leaves(), nested(1), nested(2), nested(3))
	for _, e := range leaves() {
		out = append(out, around(e)...)
	}
	for kind := api.Add; kind <= api.Or; kind++ {
		for _, a := range nested(1) {
			for _, b := range nested(1) {
				out = append(out, binary(kind, a, b))
			}
		}
	}
	return out
}

// stmts are statements of all Kinds, each with what it may have and without, and with an expression at each place for one.
func stmts(e api.Expr, inner []api.Stmt) []api.Stmt {
	one, other := number(1), body(printOf(named("z")))
	return []api.Stmt{
		{Kind: api.Let, Name: "x", E: list(e)},
		{Kind: api.Set, Name: "x", E: list(e)},
		{Kind: api.Put, Name: "x", E: list(e, one)},
		{Kind: api.Put, Name: "x", E: list(one, e)},
		{Kind: api.If, E: list(e), Body: inner},
		{Kind: api.If, E: list(e), Else: inner},
		{Kind: api.If, E: list(e), Body: inner, Else: other},
		{Kind: api.If, E: list(e), Body: other, Else: inner},
		{Kind: api.While, E: list(e), Body: inner},
		{Kind: api.With, Name: "x", Body: inner},
		printOf(e),
		{Kind: api.Call, Name: "x"},
		{Kind: api.Call, Name: "x", E: list(e)},
		{Kind: api.Call, Name: "x", E: list(e, e), To: "y"},
		{Kind: api.Call, Name: "x", E: list(one, e, one), To: "y", New: true},
		{Kind: api.Call, Name: "x", To: "x", New: true},
		{Kind: api.Return, E: list(e)},
	}
}

// decls are declarations of all Kinds, with each of some statements alone and with all of them, in functions and threads.
func decls(l []api.Stmt) []api.Decl {
	out := []api.Decl{
		{Kind: api.Global, Name: "x"}, {Kind: api.Global, Name: "x", N: 12}, {Kind: api.Global, Name: "x", N: -12},
		{Kind: api.Global, Name: "x", N: math.MaxInt64}, {Kind: api.Global, Name: "x", N: math.MinInt64},
		{Kind: api.Array, Name: "x", N: 1}, {Kind: api.Array, Name: longName, N: api.MaxSize},
		{Kind: api.Lock, Name: "x"},
		{Kind: api.Func, Name: "x"}, {Kind: api.Func, Name: "x", Params: []string{"p"}, Body: l},
		{Kind: api.Func, Name: "x", Params: []string{"p", longName, "p"}, Body: l},
		{Kind: api.Thread, Name: "x"}, {Kind: api.Thread, Name: longName, Body: l},
	}
	for _, s := range l {
		out = append(out, api.Decl{Kind: api.Thread, Name: "x", Body: body(s)}, api.Decl{Kind: api.Func, Name: "x", Body: body(s, s)})
	}
	return out
}

// programs are some of no declarations, of one, and of many; no two of them are the same.
func programs() [][]api.Decl {
	sum := binary(api.Mul, binary(api.Add, number(1), index("a", number(2))), unary(api.Not, binary(api.Less, named("x"), number(3))))
	flat := stmts(sum, nil)
	var deeper []api.Stmt
	for _, s := range flat {
		deeper = append(deeper, stmts(named("b"), body(s))[4:10]...)
	}
	all := decls(slices.Concat(flat, deeper))
	out := [][]api.Decl{nil}
	for i := range all {
		out = append(out, all[i:i+1], slices.Concat(all[i:i+1], all[:i%20+1]))
	}
	return append(out, all, all[1:])
}

// maker makes expressions and programs out of a number, always the same ones.
type maker struct{ seed uint32 }

func (m *maker) next(n int) int {
	m.seed = m.seed*1664525 + 1013904223
	return int(m.seed>>8) % n
}

func (m *maker) expr(deep int) api.Expr {
	if deep == 0 || m.next(9) == 0 {
		return leaves()[m.next(len(leaves()))]
	}
	places := around(m.expr(deep - 1))
	e := places[m.next(len(places))]
	if len(e.Args) == 2 && e.Args[0].Name == "c" {
		e.Args[0] = m.expr(deep - 1)
	}
	return e
}

func (m *maker) stmts(deep int) []api.Stmt {
	var out []api.Stmt
	for range m.next(4) {
		var inner []api.Stmt
		if deep > 0 {
			inner = m.stmts(deep - 1)
		}
		all := stmts(m.expr(3), inner)
		out = append(out, all[m.next(len(all))])
	}
	return out
}

func (m *maker) program() []api.Decl {
	var out []api.Decl
	for range m.next(6) {
		all := decls(m.stmts(3))
		out = append(out, all[m.next(len(all))])
	}
	return out
}

package tree_test

import (
	"reflect"
	"slices"

	"bobbin/api"
	"bobbin/tree"
)

func number(n int64) api.Expr    { return api.Expr{Kind: api.Int, N: n} }
func truth(n int64) api.Expr     { return api.Expr{Kind: api.Bool, N: n} }
func variable(s string) api.Expr { return api.Expr{Kind: api.Var, Name: s} }
func index(s string, e api.Expr) api.Expr {
	return api.Expr{Kind: api.Index, Name: s, Args: []api.Expr{e}}
}
func unary(kind uint8, e api.Expr) api.Expr     { return api.Expr{Kind: kind, Args: []api.Expr{e}} }
func binary(kind uint8, a, b api.Expr) api.Expr { return api.Expr{Kind: kind, Args: []api.Expr{a, b}} }

func printOf(e api.Expr) api.Stmt { return api.Stmt{Kind: api.Print, E: []api.Expr{e}} }

func setOf(kind uint8, s string, e ...api.Expr) api.Stmt { return api.Stmt{Kind: kind, Name: s, E: e} }

func threadOf(l ...api.Stmt) []api.Decl { return []api.Decl{{Kind: api.Thread, Name: "t", Body: l}} }

// kindsUpTo are the Kinds from 0 to some behind the last one that there is, and some far behind.
func kindsUpTo(last uint8) []uint8 {
	var out []uint8
	for kind := range last + 4 {
		out = append(out, kind)
	}
	return append(out, 128, 254, 255)
}

// wraps puts a statement into others, at each place that there is for one.
func wraps() []func(api.Stmt) api.Stmt {
	yes, fine := []api.Expr{truth(1)}, printOf(number(1))
	return []func(api.Stmt) api.Stmt{
		func(s api.Stmt) api.Stmt { return api.Stmt{Kind: api.If, E: yes, Body: []api.Stmt{s}} },
		func(s api.Stmt) api.Stmt { return api.Stmt{Kind: api.If, E: yes, Else: []api.Stmt{s}} },
		func(s api.Stmt) api.Stmt { return api.Stmt{Kind: api.While, E: yes, Body: []api.Stmt{s}} },
		func(s api.Stmt) api.Stmt { return api.Stmt{Kind: api.With, Name: "l", Body: []api.Stmt{s}} },
		func(s api.Stmt) api.Stmt {
			return api.Stmt{Kind: api.If, E: yes, Body: []api.Stmt{fine, s, fine}, Else: []api.Stmt{fine}}
		},
		func(s api.Stmt) api.Stmt {
			return api.Stmt{Kind: api.If, E: yes, Body: []api.Stmt{fine}, Else: []api.Stmt{fine, fine, s}}
		},
	}
}

// exprWraps puts an expression into others, at each place that there is for one.
func exprWraps() []func(api.Expr) api.Expr {
	return []func(api.Expr) api.Expr{
		func(e api.Expr) api.Expr { return index("a", e) },
		func(e api.Expr) api.Expr { return unary(api.Neg, e) },
		func(e api.Expr) api.Expr { return unary(api.Not, e) },
		func(e api.Expr) api.Expr { return binary(api.Add, e, number(1)) },
		func(e api.Expr) api.Expr { return binary(api.Or, number(1), e) },
	}
}

// holders are statements that have an expression, at each place that there is for one.
func holders(e api.Expr) []api.Stmt {
	one := number(1)
	return []api.Stmt{
		setOf(api.Let, "x", e), setOf(api.Set, "x", e), setOf(api.Put, "a", e, one), setOf(api.Put, "a", one, e),
		{Kind: api.If, E: []api.Expr{e}}, {Kind: api.While, E: []api.Expr{e}}, printOf(e), {Kind: api.Return, E: []api.Expr{e}},
		setOf(api.Call, "f", e), setOf(api.Call, "f", one, one, e), {Kind: api.Call, Name: "f", To: "y", E: []api.Expr{e, one}},
	}
}

// change does something to a value, behind which it is the same, or is not.
type change[T any] struct {
	what string
	same bool
	do   func(*T)
}

func fullExpr() api.Expr {
	return api.Expr{Kind: api.Add, Name: "x", N: 5, Args: []api.Expr{number(1), variable("y")}, At: 3}
}

func exprChanges() []change[api.Expr] {
	return []change[api.Expr]{
		{"nothing", true, func(e *api.Expr) {}},
		{"At", true, func(e *api.Expr) { e.At = -9 }},
		{"At within", true, func(e *api.Expr) { e.Args[1].At = 9 }},
		{"empty Args", true, func(e *api.Expr) { e.Args[0].Args = []api.Expr{} }},
		{"Kind", false, func(e *api.Expr) { e.Kind = api.Sub }},
		{"Name", false, func(e *api.Expr) { e.Name = "z" }},
		{"no Name", false, func(e *api.Expr) { e.Name = "" }},
		{"N", false, func(e *api.Expr) { e.N = -5 }},
		{"N far away", false, func(e *api.Expr) { e.N += 1 << 32 }},
		{"Kind within", false, func(e *api.Expr) { e.Args[0].Kind = api.Bool }},
		{"N within", false, func(e *api.Expr) { e.Args[0].N = 2 }},
		{"Name within", false, func(e *api.Expr) { e.Args[1].Name = "Y" }},
		{"one less", false, func(e *api.Expr) { e.Args = e.Args[:1] }},
		{"one more", false, func(e *api.Expr) { e.Args = append(e.Args, api.Expr{}) }},
		{"none", false, func(e *api.Expr) { e.Args = nil }},
		{"turned about", false, func(e *api.Expr) { slices.Reverse(e.Args) }},
	}
}

func fullStmt() api.Stmt {
	return api.Stmt{Kind: api.If, Name: "x", To: "y", New: true, E: []api.Expr{fullExpr()}, Body: []api.Stmt{printOf(number(1)), setOf(api.With, "l")}, Else: []api.Stmt{printOf(number(2))}, At: 3}
}

func stmtChanges() []change[api.Stmt] {
	return []change[api.Stmt]{
		{"nothing", true, func(s *api.Stmt) {}},
		{"At", true, func(s *api.Stmt) { s.At = 0 }},
		{"At within", true, func(s *api.Stmt) { s.Body[1].At, s.Else[0].At, s.E[0].At, s.E[0].Args[0].At = 1, 2, 3, 4 }},
		{"empty lists", true, func(s *api.Stmt) {
			s.Body[1].E, s.Body[1].Body, s.Body[1].Else = []api.Expr{}, []api.Stmt{}, []api.Stmt{}
		}},
		{"Kind", false, func(s *api.Stmt) { s.Kind = api.While }},
		{"Name", false, func(s *api.Stmt) { s.Name = "z" }},
		{"To", false, func(s *api.Stmt) { s.To = "x" }},
		{"no To", false, func(s *api.Stmt) { s.To = "" }},
		{"New", false, func(s *api.Stmt) { s.New = false }},
		{"Name and To turned about", false, func(s *api.Stmt) { s.Name, s.To = s.To, s.Name }},
		{"E", false, func(s *api.Stmt) { s.E[0].Args[0].N = 7 }},
		{"one E more", false, func(s *api.Stmt) { s.E = append(s.E, number(1)) }},
		{"no E", false, func(s *api.Stmt) { s.E = nil }},
		{"Body", false, func(s *api.Stmt) { s.Body[1].Name = "m" }},
		{"one less in Body", false, func(s *api.Stmt) { s.Body = s.Body[:1] }},
		{"Body turned about", false, func(s *api.Stmt) { slices.Reverse(s.Body) }},
		{"Else", false, func(s *api.Stmt) { s.Else[0].E[0].N = 7 }},
		{"one more in Else", false, func(s *api.Stmt) { s.Else = append(s.Else, api.Stmt{}) }},
		{"no Else", false, func(s *api.Stmt) { s.Else = nil }},
		{"Body and Else turned about", false, func(s *api.Stmt) { s.Body, s.Else = s.Else, s.Body }},
	}
}

func fullDecl() api.Decl {
	return api.Decl{Kind: api.Func, Name: "f", N: 5, Params: []string{"a", "b"}, Body: []api.Stmt{fullStmt(), {}}, At: 3}
}

func declChanges() []change[api.Decl] {
	return []change[api.Decl]{
		{"nothing", true, func(d *api.Decl) {}},
		{"At", true, func(d *api.Decl) { d.At = 0 }},
		{"At within", true, func(d *api.Decl) { d.Body[0].At, d.Body[1].At = 7, 8 }},
		{"empty lists", true, func(d *api.Decl) { d.Body[1].E, d.Body[1].Body = []api.Expr{}, []api.Stmt{} }},
		{"Kind", false, func(d *api.Decl) { d.Kind = api.Thread }},
		{"Name", false, func(d *api.Decl) { d.Name = "F" }},
		{"N", false, func(d *api.Decl) { d.N = 0 }},
		{"a parameter", false, func(d *api.Decl) { d.Params[1] = "c" }},
		{"one parameter less", false, func(d *api.Decl) { d.Params = d.Params[:1] }},
		{"no parameters", false, func(d *api.Decl) { d.Params = nil }},
		{"parameters turned about", false, func(d *api.Decl) { slices.Reverse(d.Params) }},
		{"Body", false, func(d *api.Decl) { d.Body[0].New = false }},
		{"one less in Body", false, func(d *api.Decl) { d.Body = d.Body[:1] }},
		{"no Body", false, func(d *api.Decl) { d.Body = nil }},
		{"Body turned about", false, func(d *api.Decl) { slices.Reverse(d.Body) }},
	}
}

// The rest of this file says what the chapter says in other words: a part may be, if nothing is left of it
// when what its Kind names is taken away.

func okExpr(e api.Expr) bool {
	for _, a := range e.Args {
		if !okExpr(a) {
			return false
		}
	}
	args, named := len(e.Args), tree.Name(e.Name)
	rest := api.Expr{Kind: e.Kind, Name: e.Name, N: e.N}
	switch e.Kind {
	case api.Int, api.Bool:
		rest.N = 0
		return reflect.DeepEqual(rest, api.Expr{Kind: e.Kind}) && args == 0 && e.N >= 0 && (e.Kind == api.Int || e.N < 2)
	case api.Var, api.Index:
		rest.Name = ""
		return reflect.DeepEqual(rest, api.Expr{Kind: e.Kind}) && named && args == int(e.Kind-api.Var)
	case api.Neg, api.Not:
		return reflect.DeepEqual(rest, api.Expr{Kind: e.Kind}) && args == 1
	case api.Add, api.Sub, api.Mul, api.Div, api.Mod, api.Less, api.LessEq, api.Equal, api.Unlike, api.And, api.Or:
		return reflect.DeepEqual(rest, api.Expr{Kind: e.Kind}) && args == 2
	}
	return false
}

func okStmt(s api.Stmt) bool {
	within := true
	eachPart([]api.Stmt{s}, func(part api.Stmt) { within = within && okAlone(part) }, func(e api.Expr) { within = within && okExpr(e) })
	return within
}

func okAlone(s api.Stmt) bool {
	rest, es, named := s, len(s.E), tree.Name(s.Name)
	rest.Kind, rest.E, rest.At = 0, nil, 0
	empty := func() bool {
		return rest.Name == "" && rest.To == "" && !rest.New && len(rest.Body)+len(rest.Else) == 0
	}
	switch s.Kind {
	case api.Let, api.Set:
		rest.Name = ""
		return named && es == 1 && empty()
	case api.Put:
		rest.Name = ""
		return named && es == 2 && empty()
	case api.If:
		rest.Body, rest.Else = nil, nil
		return es == 1 && empty()
	case api.While:
		rest.Body = nil
		return es == 1 && empty()
	case api.With:
		rest.Name, rest.Body = "", nil
		return named && es == 0 && empty()
	case api.Print, api.Return:
		return es == 1 && empty()
	case api.Call:
		rest.Name, rest.To, rest.New = "", "", false
		return named && es <= 8 && (tree.Name(s.To) || s.To == "" && !s.New) && empty()
	}
	return false
}

func okDecl(d api.Decl) bool {
	if !tree.Name(d.Name) || slices.ContainsFunc(d.Params, func(s string) bool { return !tree.Name(s) }) {
		return false
	}
	if slices.ContainsFunc(d.Body, func(s api.Stmt) bool { return !okStmt(s) }) {
		return false
	}
	params, body := len(d.Params), len(d.Body)
	switch d.Kind {
	case api.Global:
		return params+body == 0
	case api.Array:
		return params+body == 0 && d.N > 0 && d.N < 1025
	case api.Lock:
		return params+body == 0 && d.N == 0
	case api.Func:
		return params <= 8 && d.N == 0
	case api.Thread:
		return params == 0 && d.N == 0
	}
	return false
}

func okProgram(l []api.Decl) bool {
	return len(l) <= 256 && deepDecls(l) <= 60 && !slices.ContainsFunc(l, func(d api.Decl) bool { return !okDecl(d) })
}

func deepExprs(l []api.Expr) int {
	deep := 0
	for _, e := range l {
		deep = max(deep, 1+deepExprs(e.Args))
	}
	return deep
}

func deepStmts(l []api.Stmt) int {
	deep := 0
	for _, s := range l {
		deep = max(deep, 1+max(deepExprs(s.E), deepStmts(s.Body), deepStmts(s.Else)))
	}
	return deep
}

func deepDecls(l []api.Decl) int {
	deep := 0
	for _, d := range l {
		deep = max(deep, deepStmts(d.Body))
	}
	return deep
}

func countDecls(l []api.Decl) int {
	count := 0
	for _, d := range l {
		count++
		eachPart(d.Body, func(api.Stmt) { count++ }, func(api.Expr) { count++ })
	}
	return count
}

// eachPart hands on all statements, and all expressions, that are in statements, and these.
func eachPart(l []api.Stmt, stmt func(api.Stmt), expr func(api.Expr)) {
	var exprs func(l []api.Expr)
	exprs = func(l []api.Expr) {
		for _, e := range l {
			expr(e)
			exprs(e.Args)
		}
	}
	for _, s := range l {
		stmt(s)
		exprs(s.E)
		eachPart(s.Body, stmt, expr)
		eachPart(s.Else, stmt, expr)
	}
}

// moved is a program with all in it at one place, and with nil for lists that are empty.
func moved(l []api.Decl, at int) []api.Decl {
	var out []api.Decl
	for _, d := range l {
		d.At, d.Params, d.Body = at, append([]string(nil), d.Params...), movedStmts(d.Body, at)
		out = append(out, d)
	}
	return out
}

func movedStmts(l []api.Stmt, at int) []api.Stmt {
	var out []api.Stmt
	for _, s := range l {
		s.At, s.E, s.Body, s.Else = at, movedExprs(s.E, at), movedStmts(s.Body, at), movedStmts(s.Else, at)
		out = append(out, s)
	}
	return out
}

func movedExprs(l []api.Expr, at int) []api.Expr {
	var out []api.Expr
	for _, e := range l {
		e.At, e.Args = at, movedExprs(e.Args, at)
		out = append(out, e)
	}
	return out
}

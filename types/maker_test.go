package types_test

import (
	"slices"
	"strconv"

	"bobbin/api"
)

// local is a local one that is known.
type local struct {
	name  string
	truth bool
}

// maker makes programs whose names are known, and whose types fit, out of a number, always the same ones.
type maker struct {
	seed  uint32
	funcs []api.Decl // those that may be called from where it is
	count int        // how many local ones the Body has
}

func (m *maker) next(n int) int {
	m.seed = m.seed*1664525 + 1013904223
	return int(m.seed>>8) % n
}

func pick[T any](m *maker, l ...T) T { return l[m.next(len(l))] }

// fresh is a name that no local one of the Body has; two Bodies have names in common.
func (m *maker) fresh() string {
	m.count++
	return "v" + strconv.Itoa(m.count)
}

func (m *maker) leaf(truth bool, known []local) api.Expr {
	var fit []local
	for _, x := range known {
		if x.truth == truth {
			fit = append(fit, x)
		}
	}
	switch {
	case len(fit) > 0 && m.next(3) > 0:
		return api.Expr{Kind: api.Var, Name: pick(m, fit...).name}
	case truth:
		return api.Expr{Kind: api.Bool, N: int64(m.next(2))}
	case m.next(2) == 0:
		return api.Expr{Kind: api.Var, Name: pick(m, "x", "y")}
	}
	return api.Expr{Kind: api.Int, N: int64(m.next(50))}
}

func (m *maker) expr(truth bool, deep int, known []local) api.Expr {
	if deep == 0 || m.next(3) == 0 {
		return m.leaf(truth, known)
	}
	inner, name := false, ""
	kind := pick(m, api.Index, api.Neg, api.Add, api.Sub, api.Mul, api.Div, api.Mod)
	if truth {
		kind = pick(m, api.Less, api.LessEq, api.Equal, api.Unlike, api.Not, api.And, api.Or)
		inner = kind == api.Not || kind >= api.And
	}
	if kind == api.Index {
		name = pick(m, "a", "b")
	}
	e := api.Expr{Kind: kind, Name: name, Args: []api.Expr{m.expr(inner, deep-1, known)}}
	if kind >= api.Add {
		e.Args = append(e.Args, m.expr(inner, deep-1, known))
	}
	return e
}

// call makes a Call, if there is whom to call, and else a Print.
func (m *maker) call(known []local) (api.Stmt, []local) {
	if len(m.funcs) == 0 {
		return api.Stmt{Kind: api.Print, E: []api.Expr{m.expr(false, 3, known)}}, known
	}
	callee := pick(m, m.funcs...)
	s := api.Stmt{Kind: api.Call, Name: callee.Name}
	for range callee.Params {
		s.E = append(s.E, m.expr(false, 2, known))
	}
	to := m.leaf(false, known)
	switch m.next(3) {
	case 0:
		s.To, s.New = m.fresh(), true
		known = append(slices.Clip(known), local{name: s.To})
	case 1:
		if to.Kind == api.Var && slices.Contains(known, local{name: to.Name}) {
			s.To = to.Name
		}
	}
	return s, known
}

// plain makes a statement that has no others within it.
func (m *maker) plain(known []local) (api.Stmt, []local) {
	truth := m.next(2) == 0
	e := m.expr(truth, 3, known)
	switch m.next(5) {
	case 0:
		name := m.fresh()
		return api.Stmt{Kind: api.Let, Name: name, E: []api.Expr{e}}, append(slices.Clip(known), local{name, truth})
	case 1:
		to := m.leaf(truth, known)
		if to.Kind != api.Var {
			return api.Stmt{Kind: api.Set, Name: "x", E: []api.Expr{m.expr(false, 3, known)}}, known
		}
		return api.Stmt{Kind: api.Set, Name: to.Name, E: []api.Expr{e}}, known
	case 2:
		l := []api.Expr{m.expr(false, 2, known), m.expr(false, 2, known)}
		return api.Stmt{Kind: api.Put, Name: pick(m, "a", "b"), E: l}, known
	case 3:
		return api.Stmt{Kind: api.Print, E: []api.Expr{m.expr(false, 3, known)}}, known
	}
	return m.call(known)
}

func (m *maker) stmts(deep int, known []local) []api.Stmt {
	var out []api.Stmt
	for range m.next(5) {
		var s api.Stmt
		kind := uint8(0)
		if deep > 0 {
			kind = pick(m, 0, 0, 0, 0, api.If, api.While, api.With)
		}
		switch kind {
		case 0:
			s, known = m.plain(known)
		case api.With:
			s = api.Stmt{Kind: kind, Name: pick(m, "k", "l"), Body: m.stmts(deep-1, known)}
		default:
			s = api.Stmt{Kind: kind, E: []api.Expr{m.expr(true, 3, known)}, Body: m.stmts(deep-1, known)}
			if kind == api.If {
				s.Else = m.stmts(deep-1, known)
			}
		}
		out = append(out, s)
	}
	return out
}

func (m *maker) function(name string) api.Decl {
	d := api.Decl{Kind: api.Func, Name: name}
	var known []local
	m.count = 0
	for range m.next(4) {
		p := m.fresh()
		d.Params, known = append(d.Params, p), append(known, local{name: p})
	}
	d.Body = m.stmts(3, known)
	if m.next(2) == 0 {
		d.Body = append(d.Body, api.Stmt{Kind: api.Return, E: []api.Expr{m.expr(false, 3, known)}})
	}
	return d
}

// program makes a program that is OK, its declarations in any row; no two parts of it stand at one place.
func (m *maker) program() []api.Decl {
	l := []api.Decl{
		{Kind: api.Global, Name: "x", N: 1}, {Kind: api.Global, Name: "y"},
		{Kind: api.Array, Name: "a", N: 3}, {Kind: api.Array, Name: "b", N: 1},
		{Kind: api.Lock, Name: "k"}, {Kind: api.Lock, Name: "l"},
	}
	m.funcs = nil
	for i := range m.next(5) {
		d := m.function("f" + strconv.Itoa(i))
		l, m.funcs = append(l, d), append(m.funcs, d)
	}
	for i := range m.next(4) {
		m.count = 0
		l = append(l, api.Decl{Kind: api.Thread, Name: "t" + strconv.Itoa(i), Body: m.stmts(3, nil)})
	}
	return placed(shuffled(m, l))
}

func shuffled[T any](m *maker, l []T) []T {
	out := slices.Clone(l)
	for i := range out {
		j := i + m.next(len(out)-i)
		out[i], out[j] = out[j], out[i]
	}
	return out
}

// parts are all places of a program at which something may be changed.
type parts struct {
	decls []*api.Decl
	lists []*[]api.Stmt
	stmts []*api.Stmt
	exprs []*api.Expr
}

func partsOf(l []api.Decl) *parts {
	p := &parts{}
	for i := range l {
		p.decls = append(p.decls, &l[i])
		p.list(&l[i].Body)
	}
	return p
}

func (p *parts) list(l *[]api.Stmt) {
	p.lists = append(p.lists, l)
	for i := range *l {
		s := &(*l)[i]
		p.stmts = append(p.stmts, s)
		p.args(s.E)
		p.list(&s.Body)
		p.list(&s.Else)
	}
}

func (p *parts) args(l []api.Expr) {
	for i := range l {
		p.exprs = append(p.exprs, &l[i])
		p.args(l[i].Args)
	}
}

// apart is a copy of a program, which shares nothing with it.
func apart(l []api.Decl) []api.Decl {
	out := slices.Clone(l)
	for i := range out {
		out[i].Params, out[i].Body = slices.Clone(out[i].Params), stmtsApart(out[i].Body)
	}
	return out
}

func stmtsApart(l []api.Stmt) []api.Stmt {
	out := slices.Clone(l)
	for i := range out {
		out[i].E, out[i].Body, out[i].Else = exprsApart(out[i].E), stmtsApart(out[i].Body), stmtsApart(out[i].Else)
	}
	return out
}

func exprsApart(l []api.Expr) []api.Expr {
	out := slices.Clone(l)
	for i := range out {
		out[i].Args = exprsApart(out[i].Args)
	}
	return out
}

// placed is a program, each part of which stands at another place.
func placed(l []api.Decl) []api.Decl {
	l = apart(l)
	p := partsOf(l)
	at := 0
	for _, d := range p.decls {
		at++
		d.At = -at
	}
	for _, s := range p.stmts {
		at++
		s.At = at
	}
	for _, e := range p.exprs {
		at++
		e.At = at
	}
	return l
}

// name is one that a program may have, or one that none has.
func (m *maker) name() string {
	return pick(m, "x", "a", "k", "f0", "f1", "f2", "t0", "none", "v1", "v2", "v3", "v4", "v5", "v6")
}

// spoiled is a program in which something is otherwise, and perhaps wrong.
func (m *maker) spoiled(l []api.Decl) []api.Decl {
	l = apart(l)
	p := partsOf(l)
	switch m.next(5) {
	case 0:
		d := pick(m, p.decls...)
		switch m.next(4) {
		case 0:
			d.Name = pick(m, p.decls...).Name
		case 1:
			d.Kind = pick(m, api.Global, api.Array, api.Lock, api.Func, api.Thread)
		case 2:
			d.Params = append(d.Params, m.name())
		default:
			l = append(l, *pick(m, p.decls...))
		}
	case 1:
		m.spoilList(pick(m, p.lists...))
	case 2:
		m.spoilCalls(p)
	case 3:
		if len(p.stmts) > 0 {
			m.spoilStmt(pick(m, p.stmts...))
		}
	default:
		if len(p.exprs) > 0 {
			m.spoilExpr(pick(m, p.exprs...))
		}
	}
	return placed(l)
}

// spoilCalls lets a func call one that may already call it.
func (m *maker) spoilCalls(p *parts) {
	var funcs []*api.Decl
	for _, d := range p.decls {
		if d.Kind == api.Func {
			funcs = append(funcs, d)
		}
	}
	if len(funcs) == 0 {
		return
	}
	callee, caller := pick(m, funcs...), pick(m, funcs...)
	s := api.Stmt{Kind: api.Call, Name: callee.Name}
	for range callee.Params {
		s.E = append(s.E, m.leaf(false, nil))
	}
	caller.Body = slices.Insert(caller.Body, 0, s)
}

func (m *maker) spoilList(l *[]api.Stmt) {
	known := []local{{"v1", false}, {"v2", true}, {"v3", false}, {"v4", true}}
	s, _ := m.plain(known[:m.next(5)])
	switch m.next(5) {
	case 0:
		*l = shuffled(m, *l)
	case 1:
		s = api.Stmt{Kind: api.Return, E: []api.Expr{m.expr(m.next(4) == 0, 1, nil)}}
	case 2:
		s = api.Stmt{Kind: api.Call, Name: m.name(), To: pick(m, "", m.name())}
		for range m.next(4) {
			s.E = append(s.E, m.expr(false, 1, nil))
		}
		s.New = s.To != "" && m.next(2) == 0
	case 3:
		if len(*l) > 0 {
			s = pick(m, *l...)
		}
	}
	*l = slices.Insert(*l, m.next(len(*l)+1), s)
}

func (m *maker) spoilStmt(s *api.Stmt) {
	switch m.next(4) {
	case 0:
		s.Kind = pick(m, api.Let, api.Set, api.Put, api.If, api.While, api.With, api.Print, api.Call, api.Return)
	case 1:
		if s.Kind == api.Call {
			s.To = m.name()
		}
		s.New = s.New != (s.To != "" && m.next(2) == 0)
	case 2:
		s.E = append(s.E, m.expr(false, 1, nil))
	default:
		if s.Name != "" {
			s.Name = m.name()
		}
	}
}

func (m *maker) spoilExpr(e *api.Expr) {
	switch {
	case e.Name != "" && m.next(2) == 0:
		e.Name = m.name()
	case len(e.Args) == 2 && m.next(2) == 0:
		e.Kind = pick(m, api.Add, api.Sub, api.Mul, api.Div, api.Mod, api.Less, api.LessEq, api.Equal, api.Unlike, api.And, api.Or)
	default:
		*e = m.expr(m.next(2) == 0, 2, []local{{m.name(), false}, {m.name(), true}})
	}
}

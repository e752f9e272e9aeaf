package tree_test

import "bobbin/api"

// maker makes trees out of a number, always the same ones; wild says how often in a thousand something is as it may not be.
type maker struct {
	seed uint32
	wild int
}

func (m *maker) next(n int) int {
	m.seed = m.seed*1664525 + 1013904223
	return int(m.seed>>8) % n
}

func (m *maker) off() bool { return m.next(1000) < m.wild }

func (m *maker) name() string {
	if m.off() {
		return badNames[m.next(len(badNames))]
	}
	return goodNames[m.next(len(goodNames))]
}

func (m *maker) expr(deep int) api.Expr {
	kind := api.Int + uint8(m.next(3))
	if deep > 0 {
		kind = api.Int + uint8(m.next(int(api.Or)))
	}
	e := api.Expr{Kind: kind, At: m.next(100)}
	args := 0
	switch {
	case kind == api.Int:
		e.N = int64(m.next(9))
	case kind == api.Bool:
		e.N = int64(m.next(2))
	case kind == api.Var:
		e.Name = m.name()
	case kind == api.Index:
		e.Name, args = m.name(), 1
	case kind < api.Add:
		args = 1
	default:
		args = 2
	}
	e.Args = m.exprs(args, deep-1)
	if m.off() {
		m.spoilExpr(&e)
	}
	return e
}

func (m *maker) exprs(count, deep int) []api.Expr {
	var out []api.Expr
	for range count {
		out = append(out, m.expr(deep))
	}
	return out
}

func (m *maker) stmt(deep int) api.Stmt {
	kinds := []uint8{api.Let, api.Set, api.Put, api.Print, api.Call, api.Return, api.If, api.While, api.With}
	if deep < 1 {
		kinds = kinds[:6]
	}
	s := api.Stmt{Kind: kinds[m.next(len(kinds))], At: m.next(100)}
	es := 1
	switch s.Kind {
	case api.Let, api.Set:
		s.Name = m.name()
	case api.Put:
		s.Name, es = m.name(), 2
	case api.With:
		s.Name, es = m.name(), 0
	case api.Call:
		s.Name, es = m.name(), m.next(api.MaxParams+1)
		if m.next(2) > 0 {
			s.To, s.New = goodNames[m.next(len(goodNames))], m.next(2) > 0
		}
	case api.If:
		s.Else = m.stmts(deep - 1)
	}
	s.E = m.exprs(es, 2)
	if s.Kind == api.If || s.Kind == api.While || s.Kind == api.With {
		s.Body = m.stmts(deep - 1)
	}
	if m.off() {
		m.spoilStmt(&s)
	}
	return s
}

func (m *maker) stmts(deep int) []api.Stmt {
	out := []api.Stmt{}
	for range m.next(4) {
		out = append(out, m.stmt(deep))
	}
	return out
}

func (m *maker) decls() []api.Decl {
	var out []api.Decl
	for range m.next(5) {
		d := api.Decl{Kind: api.Global + uint8(m.next(int(api.Thread))), Name: m.name(), At: m.next(100)}
		switch d.Kind {
		case api.Global:
			d.N = int64(m.next(9)) - 4
		case api.Array:
			d.N = 1 + int64(m.next(api.MaxSize))
		case api.Func:
			for range m.next(api.MaxParams + 1) {
				d.Params = append(d.Params, m.name())
			}
			d.Body = m.stmts(3)
		case api.Thread:
			d.Body = m.stmts(3)
		}
		if m.off() {
			m.spoilDecl(&d)
		}
		out = append(out, d)
	}
	return out
}

func (m *maker) spoilExpr(e *api.Expr) {
	switch m.next(5) {
	case 0:
		e.Kind = uint8(m.next(256))
	case 1:
		e.Name = m.name()
	case 2:
		e.N = int64(m.next(5)) - 2
	case 3:
		e.Args = append(e.Args, m.expr(0))
	case 4:
		e.Args = e.Args[:len(e.Args)/2]
	}
}

func (m *maker) spoilStmt(s *api.Stmt) {
	switch m.next(8) {
	case 0:
		s.Kind = uint8(m.next(256))
	case 1:
		s.Name = m.name()
	case 2:
		s.To = m.name()
	case 3:
		s.New = !s.New
	case 4:
		s.E = append(s.E, m.expr(0))
	case 5:
		s.E = s.E[:len(s.E)/2]
	case 6:
		s.Body = append(s.Body, m.stmt(0))
	case 7:
		s.Else = append(s.Else, m.stmt(0))
	}
}

func (m *maker) spoilDecl(d *api.Decl) {
	switch m.next(5) {
	case 0:
		d.Kind = uint8(m.next(256))
	case 1:
		d.Name = ""
	case 2:
		d.N = int64(m.next(2000)) - 500
	case 3:
		d.Params = append(d.Params, m.name())
	case 4:
		d.Body = append(d.Body, m.stmt(0))
	}
}

// change spoils one part of a program, which may be as it was behind that.
func (m *maker) change(l []api.Decl) {
	if len(l) == 0 {
		return
	}
	d := &l[m.next(len(l))]
	if len(d.Body) == 0 || m.next(4) == 0 {
		m.spoilDecl(d)
		return
	}
	s := &d.Body[m.next(len(d.Body))]
	for len(s.Body) > 0 && m.next(2) > 0 {
		s = &s.Body[m.next(len(s.Body))]
	}
	if len(s.E) == 0 || m.next(2) > 0 {
		m.spoilStmt(s)
		return
	}
	e := &s.E[m.next(len(s.E))]
	for len(e.Args) > 0 && m.next(3) > 0 {
		e = &e.Args[m.next(len(e.Args))]
	}
	m.spoilExpr(e)
}

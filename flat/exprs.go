package flat

import "bobbin/api"

// exprMakes are what each Kind of expressions makes, of which it answers the register.
func exprMakes() [api.Or + 1]func(*maker, api.Expr) int {
	return [...]func(*maker, api.Expr) int{
		api.Int:    (*maker).constant,
		api.Bool:   (*maker).constant,
		api.Var:    (*maker).variable,
		api.Index:  (*maker).cell,
		api.Neg:    (*maker).unary,
		api.Not:    (*maker).unary,
		api.Add:    (*maker).binary,
		api.Sub:    (*maker).binary,
		api.Mul:    (*maker).binary,
		api.Div:    (*maker).binary,
		api.Mod:    (*maker).binary,
		api.Less:   (*maker).binary,
		api.LessEq: (*maker).binary,
		api.Equal:  (*maker).binary,
		api.Unlike: (*maker).binary,
		api.And:    (*maker).binary,
		api.Or:     (*maker).binary,
	}
}

func (m *maker) constant(e api.Expr) int { return m.into(api.Ins{Op: api.OConst, N: e.N}) }

// variable makes nothing of a local one.
func (m *maker) variable(e api.Expr) int {
	if r, local := m.locals[e.Name]; local {
		return r
	}
	return m.into(api.Ins{Op: api.OLoad, A: noPlace, N: m.mems[e.Name]})
}

func (m *maker) cell(e api.Expr) int {
	place := m.expr(e.Args[0])
	return m.into(api.Ins{Op: api.OLoad, A: place, N: m.mems[e.Name]})
}

func (m *maker) unary(e api.Expr) int {
	a := m.expr(e.Args[0])
	return m.into(api.Ins{Op: api.OUnary, A: a, N: int64(e.Kind)})
}

func (m *maker) binary(e api.Expr) int {
	a := m.expr(e.Args[0])
	b := m.expr(e.Args[1])
	return m.into(api.Ins{Op: api.OBinary, A: a, B: b, N: int64(e.Kind)})
}

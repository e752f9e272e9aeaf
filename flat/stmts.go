package flat

import "bobbin/api"

// stmtMakes are what each Kind of statements makes.
func stmtMakes() [api.Return + 1]func(*maker, api.Stmt) {
	return [...]func(*maker, api.Stmt){
		api.Let:    (*maker).let,
		api.Set:    (*maker).set,
		api.Put:    (*maker).put,
		api.If:     (*maker).branch,
		api.While:  (*maker).loop,
		api.With:   (*maker).with,
		api.Print:  (*maker).print,
		api.Call:   (*maker).call,
		api.Return: (*maker).leave,
	}
}

func (m *maker) let(s api.Stmt) {
	e := m.expr(s.E[0])
	m.add(api.Ins{Op: api.OMove, R: m.declare(s.Name), A: e})
}

func (m *maker) set(s api.Stmt) {
	e := m.expr(s.E[0])
	if r, local := m.locals[s.Name]; local {
		m.add(api.Ins{Op: api.OMove, R: r, A: e})
		return
	}
	m.add(api.Ins{Op: api.OStore, A: noPlace, B: e, N: m.mems[s.Name]})
}

func (m *maker) put(s api.Stmt) {
	place := m.expr(s.E[0])
	e := m.expr(s.E[1])
	m.add(api.Ins{Op: api.OStore, A: place, B: e, N: m.mems[s.Name]})
}

// branch makes an If: what leads past its Body leads past the jump behind that, too.
func (m *maker) branch(s api.Stmt) {
	past := m.add(api.Ins{Op: api.OBranch, A: m.expr(s.E[0])})
	m.block(s.Body)
	if len(s.Else) > 0 {
		end := m.add(api.Ins{Op: api.OJump})
		m.here(past)
		m.block(s.Else)
		past = end
	}
	m.here(past)
}

func (m *maker) loop(s api.Stmt) {
	begin := len(m.code)
	past := m.add(api.Ins{Op: api.OBranch, A: m.expr(s.E[0])})
	m.block(s.Body)
	m.add(api.Ins{Op: api.OJump, N: int64(begin)})
	m.here(past)
}

func (m *maker) with(s api.Stmt) {
	m.add(api.Ins{Op: api.OAcquire, N: m.locks[s.Name]})
	m.block(s.Body)
	m.add(api.Ins{Op: api.ORelease, N: m.locks[s.Name]})
}

func (m *maker) print(s api.Stmt) { m.add(api.Ins{Op: api.OPrint, A: m.expr(s.E[0])}) }

func (m *maker) call(s api.Stmt) {
	var args []int
	for _, e := range s.E {
		args = append(args, m.expr(e))
	}
	answer := m.into(api.Ins{Op: api.OCall, N: m.funs[s.Name], Args: args})
	switch {
	case s.New:
		m.add(api.Ins{Op: api.OMove, R: m.declare(s.To), A: answer})
	case s.To != "":
		m.add(api.Ins{Op: api.OMove, R: m.locals[s.To], A: answer})
	}
}

func (m *maker) leave(s api.Stmt) { m.add(api.Ins{Op: api.OReturn, A: m.expr(s.E[0])}) }

package flat

import (
	"maps"

	"bobbin/api"
)

// noPlace is the A of an OLoad, or an OStore, of a global that is no array.
const noPlace = -1

// maker makes a Fun, from its Body's begin on.
type maker struct {
	names
	exprs  [api.Or + 1]func(*maker, api.Expr) int
	stmts  [api.Return + 1]func(*maker, api.Stmt)
	locals map[string]int // the registers of those local ones that are known here
	regs   int            // how many registers were taken
	code   []api.Ins
}

// full says whether there is more than a Fun may have. Nothing else is made then:
// a tree whose parts share their lists may be much larger than all that it is stored in.
func (m *maker) full() bool { return m.regs > api.MaxRegs || len(m.code) > api.MaxIns }

// take takes a register.
func (m *maker) take() int {
	m.regs++
	return m.regs - 1
}

// declare takes a local one's register.
func (m *maker) declare(name string) int {
	r := m.take()
	m.locals[name] = r
	return r
}

// add adds an instruction and answers its number.
func (m *maker) add(i api.Ins) int {
	m.code = append(m.code, i)
	return len(m.code) - 1
}

// into adds an instruction that writes a register, which is taken for it.
func (m *maker) into(i api.Ins) int {
	i.R = m.take()
	m.add(i)
	return i.R
}

// here lets a jump lead to what is made next.
func (m *maker) here(jump int) { m.code[jump].N = int64(len(m.code)) }

// list makes statements.
func (m *maker) list(l []api.Stmt) {
	for _, s := range l {
		if m.full() {
			return
		}
		m.stmts[s.Kind](m, s)
	}
}

// block makes statements, behind which their local ones are known no longer.
func (m *maker) block(l []api.Stmt) {
	outer := m.locals
	m.locals = maps.Clone(outer)
	m.list(l)
	m.locals = outer
}

// expr makes an expression and answers its register.
func (m *maker) expr(e api.Expr) int {
	if m.full() {
		return 0
	}
	return m.exprs[e.Kind](m, e)
}

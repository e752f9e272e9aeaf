package code_test

import (
	"math"
	"slices"
	"strconv"
	"strings"

	"bobbin/api"
)

// maker makes programs out of a number, always the same ones.
type maker struct {
	seed uint32
	// Of texts: how many Params each func has, how many of them may be called, the local ones that are known, and how many there were.
	params []int
	called int
	known  []string
	count  int
}

func (m *maker) next(n int) int {
	m.seed = m.seed*1664525 + 1013904223
	return int(m.seed>>8) % n
}

func pick[T any](m *maker, l ...T) T { return l[m.next(len(l))] }

// program makes a program of instructions that may be.
func (m *maker) program() api.Prog {
	var p api.Prog
	for i := range m.next(4) {
		p.Mems = append(p.Mems, api.Mem{Name: "x" + strconv.Itoa(i), Size: pick(m, 1, 2, api.MaxSize), First: int64(m.next(9)) - 4})
	}
	for i := range m.next(3) {
		p.Locks = append(p.Locks, "k"+strconv.Itoa(i))
	}
	for i := range m.next(5) {
		f := api.Fun{Name: "f" + strconv.Itoa(i), Thread: m.next(3) == 0}
		if !f.Thread {
			f.Params = pick(m, 0, 0, 1, 2, api.MaxParams)
		}
		f.Regs = f.Params + m.next(4)
		f.Code = make([]api.Ins, 1+m.next(12))
		p.Funs = append(p.Funs, f)
	}
	for fun, f := range p.Funs {
		for at := range f.Code {
			f.Code[at] = m.ins(p, fun)
		}
		f.Code[len(f.Code)-1] = m.last(p, fun)
	}
	return p
}

// last makes an instruction that may be the last one.
func (m *maker) last(p api.Prog, fun int) api.Ins {
	f := p.Funs[fun]
	if f.Regs == 0 || m.next(2) == 0 {
		return api.Ins{Op: api.OJump, N: int64(m.next(len(f.Code)))}
	}
	return api.Ins{Op: api.OReturn, A: m.next(f.Regs)}
}

// ins makes an instruction that may be in a Fun.
func (m *maker) ins(p api.Prog, fun int) api.Ins {
	f := p.Funs[fun]
	for {
		i := api.Ins{Op: api.OConst + uint8(m.next(int(api.OReturn)))}
		r, a, b := m.next(max(1, f.Regs)), m.next(max(1, f.Regs)), m.next(max(1, f.Regs))
		place := pick(m, a, -1)
		switch i.Op {
		case api.OConst:
			i.R, i.N = r, pick(m, 0, int64(m.next(1000)), math.MinInt64, math.MaxInt64)
		case api.OMove:
			i.R, i.A = r, a
		case api.OUnary:
			i.R, i.A, i.N = r, a, int64(pick(m, api.Neg, api.Not))
		case api.OBinary:
			i.R, i.A, i.B, i.N = r, a, b, int64(api.Add)+int64(m.next(int(api.Or-api.Add)+1))
		case api.OLoad:
			i.R, i.A, i.N = r, place, int64(m.next(4))
		case api.OStore:
			i.A, i.B, i.N = place, b, int64(m.next(4))
		case api.OAcquire, api.ORelease:
			i.N = int64(m.next(3))
		case api.OPrint, api.OReturn:
			i.A = a
		case api.OCall:
			i.R, i.N = r, int64(m.next(len(p.Funs)))
			for range p.Funs[i.N].Params {
				i.Args = append(i.Args, m.next(max(1, f.Regs)))
			}
		case api.OJump:
			i.N = int64(m.next(len(f.Code)))
		case api.OBranch:
			i.A, i.N = a, int64(m.next(len(f.Code)))
		}
		if okIns(p, fun, i) {
			return i
		}
	}
}

// edge is a number at an edge of what there may be in a program.
func (m *maker) edge(p api.Prog) int64 {
	most := pick(m, 0, 1, len(p.Mems), len(p.Locks), len(p.Funs), api.MaxParams, api.MaxRegs, api.MaxSize, int(api.Neg), int(api.Not), int(api.Add), int(api.Or))
	if len(p.Funs) > 0 && m.next(2) == 0 {
		f := p.Funs[m.next(len(p.Funs))]
		most = pick(m, f.Regs, f.Params, len(f.Code))
	}
	return pick(m, int64(most)+int64(m.next(3))-1, int64(m.next(4))-1, math.MinInt64, math.MaxInt64)
}

// spoilIns changes something of an instruction, which may be as it may be behind that.
func (m *maker) spoilIns(p api.Prog, i *api.Ins) {
	n := m.edge(p)
	switch m.next(8) {
	case 0:
		i.Op = uint8(pick(m, m.next(256), m.next(15)))
	case 1:
		i.R = int(n)
	case 2:
		i.A = int(n)
	case 3:
		i.B = int(n)
	case 4, 5:
		i.N = n
	case 6:
		i.Args = append(slices.Clip(i.Args), m.next(3))
	case 7:
		if len(i.Args) > 0 {
			i.Args = slices.Clone(i.Args)
			i.Args[m.next(len(i.Args))] = int(n)
		}
	}
}

// spoil changes something of a program, which may be as it may be behind that.
func (m *maker) spoil(p *api.Prog) {
	name := pick(m, append([]string{"x0", "x1", "k0", "k1", "f0", "f1", "free"}, badNames()...)...)
	if len(p.Funs) == 0 || m.next(6) == 0 {
		switch m.next(3) {
		case 0:
			p.Mems = append(p.Mems, api.Mem{Name: name, Size: int(m.edge(*p))})
		case 1:
			p.Locks = append(p.Locks, name)
		case 2:
			p.Funs = append(p.Funs, api.Fun{Name: name, Code: []api.Ins{{Op: api.OJump}}})
		}
		return
	}
	f := &p.Funs[m.next(len(p.Funs))]
	switch m.next(8) {
	case 0:
		f.Name = name
	case 1:
		f.Thread = !f.Thread
	case 2:
		f.Params = int(m.edge(*p))
	case 3:
		f.Regs = int(m.edge(*p))
	case 4:
		f.Code = f.Code[:m.next(len(f.Code)+1)]
	default:
		if len(f.Code) > 0 {
			m.spoilIns(*p, &f.Code[m.next(len(f.Code))])
		}
	}
}

// badNames are texts that are no names.
func badNames() []string {
	return []string{"", "1x", "x-", "x y", "é", "thread", "true", strings.Repeat("n", api.MaxName+1)}
}

// text makes the text of a program that can be compiled.
func (m *maker) text() string {
	decls := []string{
		"global x = " + pick(m, "1", "-9223372036854775808") + ";", "global y = 2;", "array a[" + pick(m, "1", "1024") + "];", "array b[3];", "lock k;", "lock l;",
	}
	m.params = nil
	for range m.next(4) {
		m.params = append(m.params, pick(m, 0, 1, 2, api.MaxParams))
	}
	for fun, params := range m.params {
		m.called, m.known = fun, nil
		for range params {
			m.fresh()
		}
		head := "func f" + strconv.Itoa(fun) + "(" + strings.Join(m.known, ", ") + ") { "
		decls = append(decls, head+m.list(3)+pick(m, "", "return "+m.expr(2)+"; ")+"}")
	}
	m.called = len(m.params)
	for i := range m.next(4) {
		m.known = nil
		decls = append(decls, "thread t"+strconv.Itoa(i)+" { "+m.list(3)+"}")
	}
	for i := range decls {
		j := i + m.next(len(decls)-i)
		decls[i], decls[j] = decls[j], decls[i]
	}
	return strings.Join(decls, " ")
}

func (m *maker) fresh() string {
	m.count++
	name := "v" + strconv.Itoa(m.count)
	m.known = append(slices.Clip(m.known), name)
	return name
}

// expr makes the text of a number.
func (m *maker) expr(deep int) string {
	if deep > 0 && m.next(3) > 0 {
		return pick(m, "-"+m.expr(deep-1), pick(m, "a", "b")+"["+m.expr(deep-1)+"]", "("+m.expr(deep-1)+pick(m, " + ", " - ", " * ", " / ", " % ")+m.expr(deep-1)+")")
	}
	return pick(m, append([]string{"x", "y", "7"}, m.known...)...)
}

// truth makes the text of a truth.
func (m *maker) truth(deep int) string {
	if deep > 0 && m.next(2) > 0 {
		return pick(m, "!"+m.truth(deep-1), "("+m.truth(deep-1)+pick(m, " && ", " || ")+m.truth(deep-1)+")")
	}
	return pick(m, "true", "false", "("+m.expr(1)+pick(m, " < ", " <= ", " == ", " != ")+m.expr(1)+")")
}

func (m *maker) call() string {
	if m.called == 0 {
		return "x = y; "
	}
	fun := m.next(m.called)
	var args []string
	for range m.params[fun] {
		args = append(args, m.expr(2))
	}
	call := "call f" + strconv.Itoa(fun) + "(" + strings.Join(args, ", ") + "); "
	switch {
	case m.next(3) == 0:
		return "var " + m.fresh() + " = " + call
	case m.next(2) == 0 && len(m.known) > 0:
		return pick(m, m.known...) + " = " + call
	}
	return call
}

func (m *maker) stmt(deep int) string {
	if deep > 0 && m.next(2) == 0 {
		switch m.next(4) {
		case 0:
			return "with " + pick(m, "k", "l") + " { " + m.block(deep-1) + "} "
		case 1:
			return "while " + m.truth(2) + " { " + m.block(deep-1) + "} "
		case 2:
			return "if " + m.truth(2) + " { " + m.block(deep-1) + "} else { " + m.block(deep-1) + "} "
		}
		return "if " + m.truth(2) + " { " + m.block(deep-1) + "} "
	}
	e := m.expr(3)
	switch m.next(5) {
	case 0:
		return "var " + m.fresh() + " = " + e + "; "
	case 1:
		return pick(m, append([]string{"x", "y"}, m.known...)...) + " = " + e + "; "
	case 2:
		return pick(m, "a", "b") + "[" + m.expr(2) + "] = " + e + "; "
	case 3:
		return m.call()
	}
	return "print " + e + "; "
}

func (m *maker) list(deep int) string {
	s := ""
	for range m.next(5) {
		s += m.stmt(deep)
	}
	return s
}

// block makes statements, behind which their local ones are known no longer.
func (m *maker) block(deep int) string {
	outer := m.known
	s := m.list(deep)
	m.known = outer
	return s
}

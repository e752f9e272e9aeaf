package sound_test

import (
	"slices"
	"strconv"
	"strings"

	"bobbin/api"
	"bobbin/flow"
	"bobbin/ssa"
)

// The instructions, each with what it names alone.
func constant(r int) api.Ins { return api.Ins{Op: api.OConst, R: r, N: 5} }
func move(r, a int) api.Ins  { return api.Ins{Op: api.OMove, R: r, A: a} }
func unary(r, a int) api.Ins { return api.Ins{Op: api.OUnary, R: r, A: a, N: int64(api.Neg)} }
func binary(r, a, b int) api.Ins {
	return api.Ins{Op: api.OBinary, R: r, A: a, B: b, N: int64(api.Sub)}
}
func load(r, a int) api.Ins  { return api.Ins{Op: api.OLoad, R: r, A: a} }
func store(a, b int) api.Ins { return api.Ins{Op: api.OStore, A: a, B: b} }
func acquire() api.Ins       { return api.Ins{Op: api.OAcquire} }
func release() api.Ins       { return api.Ins{Op: api.ORelease} }
func show(a int) api.Ins     { return api.Ins{Op: api.OPrint, A: a} }
func jump() api.Ins          { return api.Ins{Op: api.OJump} }
func branch(a int) api.Ins   { return api.Ins{Op: api.OBranch, A: a} }
func back(a int) api.Ins     { return api.Ins{Op: api.OReturn, A: a} }
func call(r int, args ...int) api.Ins {
	return api.Ins{Op: api.OCall, R: r, Args: args}
}

func list(l ...int) []int { return l }

// block is a block: where one goes to, its instructions.
func block(to []int, l ...api.Ins) api.Block { return api.Block{To: to, Code: l} }

// choice is a block with Phis ahead.
func choice(x api.Block, phis ...api.Phi) api.Block {
	x.Phis = phis
	return x
}

func phi(r int, args ...int) api.Phi { return api.Phi{R: r, Args: args} }

// graph is a graph of blocks, From of which is what To says.
func graph(params, regs int, l ...api.Block) api.Graph {
	for b := range l {
		l[b].From = nil
	}
	for b, x := range l {
		for way, to := range x.To {
			if !slices.Contains(x.To[:way], to) {
				l[to].From = append(l[to].From, b)
			}
		}
	}
	return api.Graph{Name: "f", Params: params, Regs: regs, Blocks: l}
}

// program is a program of blocks of some graphs, that have names by their numbers, a global and a lock.
func program(l ...api.Graph) api.Form {
	f := api.Form{Mems: []api.Mem{{Name: "x", Size: 1, First: 7}}, Locks: []string{"k"}}
	for n, g := range l {
		g.Name = "f" + strconv.Itoa(n)
		f.Funs = append(f.Funs, g)
	}
	return f
}

// clone is a graph that shares nothing with another one.
func clone(g api.Graph) api.Graph {
	g.Blocks = slices.Clone(g.Blocks)
	for b := range g.Blocks {
		x := &g.Blocks[b]
		x.Phis, x.Code, x.From, x.To = slices.Clone(x.Phis), slices.Clone(x.Code), slices.Clone(x.From), slices.Clone(x.To)
		for n := range x.Phis {
			x.Phis[n].Args = slices.Clone(x.Phis[n].Args)
		}
		for at := range x.Code {
			x.Code[at].Args = slices.Clone(x.Code[at].Args)
		}
	}
	return g
}

// maker makes graphs and programs out of a number, always the same ones.
type maker struct{ seed uint64 }

func (m *maker) next(n int) int {
	m.seed = m.seed*6364136223846793005 + 1442695040888963407
	return int(m.seed >> 33 % uint64(n))
}

func pick[T any](m *maker, l ...T) T { return l[m.next(len(l))] }

// plain makes an instruction that goes nowhere.
func (m *maker) plain(regs int) api.Ins {
	r, a, b := m.next(regs), m.next(regs), m.next(regs)
	return pick(m, constant(r), constant(r), move(r, a), unary(r, a), binary(r, a, b), load(r, a), load(r, -1), store(a, b), store(-1, b),
		acquire(), release(), show(a), show(a), call(r), call(r, a), call(r, a, b, a))
}

// loose makes a graph of most blocks, at most, that may be, without Phis; there may be blocks that are not reached.
func (m *maker) loose(most int) api.Graph {
	for {
		params := m.next(3)
		regs := params + 1 + m.next(4)
		l := make([]api.Block, 1+m.next(most))
		busy := pick(m, 2, 3, 5)
		for b := range l {
			for range m.next(busy) {
				l[b].Code = append(l[b].Code, m.plain(regs))
			}
			m.end(l, b, regs)
		}
		if g := graph(params, regs, l...); flow.May(g) {
			return g
		}
	}
}

// end makes how a block ends, and where it goes to: often to one that is near.
func (m *maker) end(l []api.Block, b, regs int) {
	x := &l[b]
	if len(l) == 1 || m.next(14) == 0 {
		x.Code = append(x.Code, back(m.next(regs)))
		return
	}
	other := func() int { return 1 + m.next(len(l)-1) }
	near := func() int { return min(max(b+m.next(6)-2, 1), len(l)-1) }
	switch x.To = list(pick(m, near, near, other)()); m.next(6) {
	case 0:
		x.Code = append(x.Code, jump())
	case 1, 2, 3, 4:
		x.Code = append(x.Code, branch(m.next(regs)))
		x.To = append(x.To, pick(m, near, near, other)())
	}
}

// known makes a graph of most blocks, at most, all of them reached, without Phis; nothing is read that was not set.
func (m *maker) known(most int) api.Graph {
	g := m.loose(most)
	for r := g.Params; r < g.Regs; r++ {
		g.Blocks[0].Code = slices.Insert(g.Blocks[0].Code, 0, constant(r))
	}
	return graph(g.Params, g.Regs, trimmed(g.Blocks)...)
}

// trimmed are the blocks that are reached, numbered anew.
func trimmed(l []api.Block) []api.Block {
	met := []int{0}
	for at := 0; at < len(met); at++ {
		for _, to := range l[met[at]].To {
			if !slices.Contains(met, to) {
				met = append(met, to)
			}
		}
	}
	slices.Sort(met)
	var out []api.Block
	for _, b := range met {
		x := l[b]
		x.To = slices.Clone(x.To)
		for way := range x.To {
			x.To[way] = slices.Index(met, x.To[way])
		}
		out = append(out, x)
	}
	return out
}

// once makes a graph of most blocks, at most, of which ssa says that each register is set once in it.
func (m *maker) once(most int) api.Graph {
	g, err := ssa.Of(m.known(most))
	if err != api.OK {
		panic(err)
	}
	return g
}

// withChoices makes Phis of a graph's blocks, of any registers.
func (m *maker) withChoices(g api.Graph) api.Graph {
	for b := range g.Blocks[1:] {
		x := &g.Blocks[b+1]
		for range m.next(3) {
			p := phi(m.next(g.Regs))
			for range x.From {
				p.Args = append(p.Args, m.next(g.Regs))
			}
			x.Phis = append(x.Phis, p)
		}
	}
	return g
}

// turned makes a graph of its own out of one, with something changed of what it reads or sets, or where that stands, or
// where one goes.
func (m *maker) turned(g api.Graph) api.Graph {
	g = clone(g)
	x := &g.Blocks[m.next(len(g.Blocks))]
	r := m.next(g.Regs)
	if len(x.Code) == 0 {
		return g
	}
	at := m.next(len(x.Code))
	switch m.next(10) {
	case 0, 1:
		m.reads(&x.Code[at], r)
	case 2:
		if _, sets := ssa.Sets(x.Code[at]); sets {
			x.Code[at].R = r
		}
	case 3:
		if at+2 < len(x.Code) {
			x.Code[at], x.Code[at+1] = x.Code[at+1], x.Code[at]
		}
	case 4:
		if at+1 < len(x.Code) {
			x.Code = slices.Delete(x.Code, at, at+1)
		}
	case 5:
		x.Code = slices.Insert(x.Code, at, m.plain(g.Regs))
	case 6:
		g.Params = pick(m, 0, 1, 2, g.Params+1)
	case 7:
		return m.leads(g, x)
	default:
		m.chooses(g, r)
	}
	return g
}

// reads makes an instruction read another register.
func (m *maker) reads(i *api.Ins, r int) {
	switch i.Op {
	case api.OMove, api.OUnary, api.OPrint, api.OBranch, api.OReturn, api.OLoad:
		i.A = r
	case api.OBinary, api.OStore:
		*pick(m, &i.A, &i.B) = r
	case api.OCall:
		if len(i.Args) > 0 {
			i.Args[m.next(len(i.Args))] = r
		}
	}
}

// leads makes one of the ways behind a block of a graph lead elsewhere; Phis lose what they can't choose any more, or
// choose any register.
func (m *maker) leads(g api.Graph, x *api.Block) api.Graph {
	if len(x.To) == 0 || len(g.Blocks) < 2 {
		return g
	}
	x.To[m.next(len(x.To))] = 1 + m.next(len(g.Blocks)-1)
	g = graph(g.Params, g.Regs, g.Blocks...)
	for b := range g.Blocks {
		x := &g.Blocks[b]
		for n := range x.Phis {
			p := &x.Phis[n]
			for len(p.Args) < len(x.From) {
				p.Args = append(p.Args, m.next(g.Regs))
			}
			p.Args = p.Args[:len(x.From)]
		}
	}
	return g
}

// chooses makes some Phi of a graph choose another register, or set one, or choose the other way about.
func (m *maker) chooses(g api.Graph, r int) {
	var all []*api.Phi
	for b := range g.Blocks {
		for n := range g.Blocks[b].Phis {
			if p := &g.Blocks[b].Phis[n]; len(p.Args) > 0 {
				all = append(all, p)
			}
		}
	}
	if len(all) == 0 {
		return
	}
	switch p := all[m.next(len(all))]; m.next(4) {
	case 0:
		p.R = r
	case 1:
		slices.Reverse(p.Args)
	default:
		p.Args[m.next(len(p.Args))] = r
	}
}

// text makes the text of a program of some funcs, and a thread.
func (m *maker) text() string {
	var s strings.Builder
	s.WriteString("global x = 1; array a[3]; lock k;\n")
	for fun := range 1 + m.next(3) {
		s.WriteString("func f" + strconv.Itoa(fun) + "(p, q) { var v = p; var w = 0; ")
		m.statements(&s, fun, 0)
		s.WriteString("return v + q; }\n")
	}
	s.WriteString("thread t { var p = 3; var q = x; var v = 1; var w = 0; ")
	m.statements(&s, 1, 0)
	return s.String() + "}"
}

// statements makes statements over the local ones p, q, v, w, that call only funcs of less number.
func (m *maker) statements(s *strings.Builder, fun, deep int) {
	name := func() string { return pick(m, "p", "q", "v", "w") }
	for range 1 + m.next(4) {
		switch n := m.next(8); {
		case n < 2 || deep > 3:
			s.WriteString(name() + " = " + name() + pick(m, " + ", " - ", " * ") + name() + "; ")
		case n == 2:
			s.WriteString("print " + name() + "; ")
		case n == 3 && fun > 0:
			s.WriteString(name() + " = call f" + strconv.Itoa(m.next(fun)) + "(" + name() + ", " + name() + "); ")
		case n == 4:
			s.WriteString("a[" + name() + "] = x; with k { x = " + name() + "; } ")
		case n == 5:
			s.WriteString("while " + name() + " < " + name() + " { ")
			m.statements(s, fun, deep+1)
			s.WriteString("} ")
		default:
			s.WriteString("if " + name() + " < " + name() + " { ")
			m.statements(s, fun, deep+1)
			s.WriteString(pick(m, "} ", "} else { v = w; } ", "} else { p = 1; } "))
		}
	}
}

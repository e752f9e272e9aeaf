package flow_test

import (
	"math"
	"slices"
	"strconv"
	"strings"

	"bobbin/api"
)

// The instructions, each with what it names alone.
func constant(r int, n int64) api.Ins     { return api.Ins{Op: api.OConst, R: r, N: n} }
func move(r, a int) api.Ins               { return api.Ins{Op: api.OMove, R: r, A: a} }
func unary(r int, k uint8, a int) api.Ins { return api.Ins{Op: api.OUnary, R: r, A: a, N: int64(k)} }
func load(r, mem, a int) api.Ins          { return api.Ins{Op: api.OLoad, R: r, A: a, N: int64(mem)} }
func store(mem, a, b int) api.Ins         { return api.Ins{Op: api.OStore, A: a, B: b, N: int64(mem)} }
func acquire(lock int) api.Ins            { return api.Ins{Op: api.OAcquire, N: int64(lock)} }
func release(lock int) api.Ins            { return api.Ins{Op: api.ORelease, N: int64(lock)} }
func show(a int) api.Ins                  { return api.Ins{Op: api.OPrint, A: a} }
func jump(n int) api.Ins                  { return api.Ins{Op: api.OJump, N: int64(n)} }
func branch(a, n int) api.Ins             { return api.Ins{Op: api.OBranch, A: a, N: int64(n)} }
func back(a int) api.Ins                  { return api.Ins{Op: api.OReturn, A: a} }
func binary(r int, k uint8, a, b int) api.Ins {
	return api.Ins{Op: api.OBinary, R: r, A: a, B: b, N: int64(k)}
}
func call(r, fun int, args ...int) api.Ins {
	return api.Ins{Op: api.OCall, R: r, N: int64(fun), Args: args}
}

// maker makes programs, graphs and programs of blocks out of a number, always the same ones.
type maker struct{ seed uint64 }

func (m *maker) bits() uint64 {
	m.seed = m.seed*6364136223846793005 + 1442695040888963407
	return m.seed >> 33
}

func (m *maker) next(n int) int { return int(m.bits() % uint64(n)) }

func pick[T any](m *maker, l ...T) T { return l[m.next(len(l))] }

// heads makes a program of blocks that has no blocks yet.
func (m *maker) heads() api.Form {
	var f api.Form
	for i := range m.next(4) {
		f.Mems = append(f.Mems, api.Mem{Name: "x" + strconv.Itoa(i), Size: pick(m, 1, 2, api.MaxSize), First: int64(m.next(9)) - 4})
	}
	for i := range m.next(4) {
		f.Locks = append(f.Locks, "k"+strconv.Itoa(i))
	}
	for i := range m.next(6) {
		g := api.Graph{Name: "f" + strconv.Itoa(i), Thread: m.next(3) == 0}
		if !g.Thread {
			g.Params = pick(m, 0, 0, 1, 2, api.MaxParams)
		}
		g.Regs = g.Params + 1 + m.next(4)
		f.Funs = append(f.Funs, g)
	}
	return f
}

// plain makes an instruction that may be in a graph of a program of blocks, and goes nowhere.
func (m *maker) plain(f api.Form, regs int) api.Ins {
	for {
		r, a, b := m.next(regs), m.next(regs), m.next(regs)
		i := pick(m, constant(r, int64(m.next(9))), constant(r, pick[int64](m, -1, math.MinInt64, math.MaxInt64)), move(r, a),
			unary(r, pick(m, api.Neg, api.Not), a), binary(r, api.Add+uint8(m.next(11)), a, b),
			load(r, m.next(4), pick(m, -1, a)), store(m.next(4), pick(m, -1, a), b),
			acquire(m.next(4)), release(m.next(4)), show(a), m.calls(f, r, regs))
		if okAlone(regs, i) && okNumber(f, i) {
			return i
		}
	}
}

// calls makes an OCall of a Fun that may be none that can be called.
func (m *maker) calls(f api.Form, r, regs int) api.Ins {
	i := call(r, m.next(len(f.Funs)+1))
	if int(i.N) < len(f.Funs) {
		for range min(f.Funs[i.N].Params, api.MaxParams) {
			i.Args = append(i.Args, m.next(regs))
		}
	}
	return i
}

// program makes a program of instructions that may be, that go to wherever they like.
func (m *maker) program() api.Prog {
	f := m.heads()
	p := api.Prog{Mems: f.Mems, Locks: f.Locks}
	for _, g := range f.Funs {
		fun := api.Fun{Name: g.Name, Thread: g.Thread, Params: g.Params, Regs: g.Regs}
		size := 1 + m.next(pick(m, 4, 12, 30))
		often := pick(m, 2, 4, 8)
		for range size {
			i := m.plain(f, g.Regs)
			if m.next(often) == 0 {
				i = pick(m, jump(m.next(size)), branch(m.next(g.Regs), m.next(size)), branch(m.next(g.Regs), m.next(size)), back(m.next(g.Regs)))
			}
			fun.Code = append(fun.Code, i)
		}
		fun.Code[size-1] = pick(m, jump(m.next(size)), back(m.next(g.Regs)))
		p.Funs = append(p.Funs, fun)
	}
	return p
}

// form makes a program of blocks that may be.
func (m *maker) form() api.Form {
	f := m.heads()
	for fun := range f.Funs {
		m.fill(f, &f.Funs[fun])
	}
	return f
}

// graph makes a graph that may be, if it is not held against a program.
func (m *maker) graph() api.Graph {
	for {
		if f := m.form(); len(f.Funs) > 0 {
			return f.Funs[m.next(len(f.Funs))]
		}
	}
}

// fill makes the blocks of a graph.
func (m *maker) fill(f api.Form, g *api.Graph) {
	g.Blocks = make([]api.Block, 1+m.next(9))
	for b := range g.Blocks {
		x := &g.Blocks[b]
		for range m.next(3) {
			x.Code = append(x.Code, m.plain(f, g.Regs))
		}
		m.end(x, g.Regs, len(g.Blocks))
	}
	for b := range g.Blocks {
		if okIdle(g.Blocks) {
			break
		}
		if x := &g.Blocks[b]; len(x.Code) == 0 {
			x.Code = append(x.Code, m.plain(f, g.Regs))
		}
	}
	settle(g.Blocks)
	for b := range g.Blocks[1:] {
		m.choices(&g.Blocks[b+1], g.Regs)
	}
}

// end makes how a block ends, and where it goes to.
func (m *maker) end(x *api.Block, regs, count int) {
	if count == 1 || m.next(5) == 0 {
		x.Code = append(x.Code, back(m.next(regs)))
		return
	}
	other := func() int { return 1 + m.next(count-1) }
	switch x.To = []int{other()}; m.next(3) {
	case 0:
		x.Code = append(x.Code, jump(0))
	case 1:
		x.Code = append(x.Code, branch(m.next(regs), 0))
		x.To = append(x.To, pick(m, x.To[0], other(), other()))
	}
}

// choices makes Phis of a block.
func (m *maker) choices(x *api.Block, regs int) {
	for range m.next(3) {
		phi := api.Phi{R: m.next(regs)}
		for range x.From {
			phi.Args = append(phi.Args, m.next(regs))
		}
		x.Phis = append(x.Phis, phi)
	}
}

// settle lets From be what To says.
func settle(l []api.Block) {
	for b := range l {
		l[b].From = comesFrom(l, b)
	}
}

// edge is a number at an edge of what there may be.
func (m *maker) edge(edges ...int) int {
	n := pick(m, append(edges, 0, 1, 2)...) + m.next(3) - 1
	return pick(m, n, n, n, math.MinInt, math.MaxInt, 1<<32)
}

// spoilList changes something of a list of numbers, that is its own.
func (m *maker) spoilList(l []int, edges ...int) []int {
	l = slices.Clone(l)
	switch {
	case m.next(3) == 0:
		return slices.Insert(l, m.next(len(l)+1), m.edge(edges...))
	case len(l) == 0:
		return l
	case m.next(2) == 0:
		at := m.next(len(l))
		return slices.Delete(l, at, at+1)
	}
	at, other := m.next(len(l)), m.next(len(l))
	l[at], l[other] = l[other], l[at]
	l[at] = pick(m, l[at], m.edge(edges...))
	return l
}

// spoilIns changes something of an instruction.
func (m *maker) spoilIns(i *api.Ins, f api.Form, regs int) {
	n := m.edge(regs, regs, len(f.Mems), len(f.Locks), len(f.Funs), int(api.Neg), int(api.Add), int(api.Or))
	switch m.next(7) {
	case 0:
		i.Op = uint8(pick(m, m.next(256), m.next(15), m.next(15)))
	case 1:
		i.R = n
	case 2:
		i.A = n
	case 3:
		i.B = n
	case 4, 5:
		i.N = int64(n)
	case 6:
		i.Args = m.spoilList(i.Args, regs)
	}
}

// spoilBlock changes something of a block.
func (m *maker) spoilBlock(x *api.Block, f api.Form, regs, count int) {
	switch m.next(10) {
	case 0, 1:
		x.To = m.spoilList(x.To, count)
	case 2:
		x.From = m.spoilList(x.From, count)
	case 3:
		x.Phis = append(slices.Clip(x.Phis), api.Phi{R: m.edge(regs), Args: make([]int, len(x.From))})
	case 4, 5:
		if len(x.Phis) > 0 {
			x.Phis = slices.Clone(x.Phis)
			phi := &x.Phis[m.next(len(x.Phis))]
			phi.Args = m.spoilList(phi.Args, regs)
		}
	case 6:
		i := pick(m, m.plain(f, max(1, regs)), jump(0), branch(0, 0), back(0))
		x.Code = slices.Insert(slices.Clone(x.Code), m.next(len(x.Code)+1), i)
	case 7:
		if len(x.Code) > 0 {
			x.Code = slices.Clone(x.Code[:len(x.Code)-1])
		}
	default:
		if len(x.Code) > 0 {
			x.Code = slices.Clone(x.Code)
			m.spoilIns(&x.Code[m.next(len(x.Code))], f, regs)
		}
	}
}

// spoilGraph changes something of a graph, whose blocks are its own; it may be as it may be behind that.
func (m *maker) spoilGraph(g *api.Graph, f api.Form) {
	regs := min(max(g.Regs, 0), 99)
	switch n := len(g.Blocks); m.next(12) {
	case 0:
		g.Params = m.edge(g.Regs, api.MaxParams)
	case 1:
		g.Regs = m.edge(g.Regs, g.Params, 4*api.MaxIns)
	case 2:
		g.Thread = !g.Thread
	case 3:
		g.Blocks = g.Blocks[:n-min(n, m.next(2))]
	case 4:
		g.Blocks = append(slices.Clip(g.Blocks), pick(m, api.Block{}, api.Block{Code: []api.Ins{back(0)}}, api.Block{To: []int{n}, From: []int{n}}))
	default:
		if n > 0 {
			m.spoilBlock(&g.Blocks[m.next(n)], f, regs, n)
		}
	}
	// Else most of what is wrong were wrong for From alone.
	if m.next(2) == 0 {
		settle(g.Blocks)
	}
}

// badNames are texts that are no names.
func badNames() []string {
	return []string{"", "1x", "x-", "x y", "é", "thread", "true", strings.Repeat("n", api.MaxName+1)}
}

// spoilForm changes something of a program of blocks, which may be as it may be behind that.
func (m *maker) spoilForm(f *api.Form) {
	name := pick(m, append([]string{"x0", "x1", "k0", "k1", "f0", "f1", "free"}, badNames()...)...)
	switch m.next(12) {
	case 0:
		f.Mems = append(slices.Clip(f.Mems), api.Mem{Name: name, Size: m.edge(api.MaxSize)})
	case 1:
		f.Locks = append(slices.Clip(f.Locks), name)
	case 2:
		f.Funs = append(slices.Clip(f.Funs), api.Graph{Name: name, Thread: m.next(2) == 0, Regs: m.next(2), Blocks: []api.Block{{Code: []api.Ins{back(0)}}}})
	case 3:
		f.Mems = f.Mems[:len(f.Mems)-min(len(f.Mems), 1)]
	case 4:
		f.Locks = f.Locks[:len(f.Locks)-min(len(f.Locks), 1)]
	case 5:
		f.Funs = f.Funs[:len(f.Funs)-min(len(f.Funs), 1)]
	default:
		if len(f.Funs) == 0 {
			return
		}
		g := &f.Funs[m.next(len(f.Funs))]
		if m.next(8) == 0 {
			g.Name = name
			return
		}
		m.spoilGraph(g, *f)
	}
}

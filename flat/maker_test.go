package flat_test

import (
	"math"
	"slices"
	"strconv"

	"bobbin/api"
)

// The instructions, each with what it names alone. Jumps tell how far they lead from where they stand.
func constant(r int, n int64) api.Ins     { return api.Ins{Op: api.OConst, R: r, N: n} }
func move(r, a int) api.Ins               { return api.Ins{Op: api.OMove, R: r, A: a} }
func unary(r int, k uint8, a int) api.Ins { return api.Ins{Op: api.OUnary, R: r, A: a, N: int64(k)} }
func load(r, mem, a int) api.Ins          { return api.Ins{Op: api.OLoad, R: r, A: a, N: int64(mem)} }
func store(mem, a, b int) api.Ins         { return api.Ins{Op: api.OStore, A: a, B: b, N: int64(mem)} }
func acquire(lock int) api.Ins            { return api.Ins{Op: api.OAcquire, N: int64(lock)} }
func release(lock int) api.Ins            { return api.Ins{Op: api.ORelease, N: int64(lock)} }
func show(a int) api.Ins                  { return api.Ins{Op: api.OPrint, A: a} }
func call(r, fun int, args ...int) api.Ins {
	return api.Ins{Op: api.OCall, R: r, N: int64(fun), Args: args}
}
func jump(far int) api.Ins      { return api.Ins{Op: api.OJump, N: int64(far)} }
func branch(a, far int) api.Ins { return api.Ins{Op: api.OBranch, A: a, N: int64(far)} }
func back(a int) api.Ins        { return api.Ins{Op: api.OReturn, A: a} }
func binary(r int, k uint8, a, b int) api.Ins {
	return api.Ins{Op: api.OBinary, R: r, A: a, B: b, N: int64(k)}
}

// settled are a Fun's instructions, whose jumps tell to where they lead.
func settled(l []api.Ins) []api.Ins {
	for at := range l {
		if l[at].Op == api.OJump || l[at].Op == api.OBranch {
			l[at].N += int64(at)
		}
	}
	return l
}

// piece is what something becomes: instructions, and the register in which it is then.
type piece struct {
	code []api.Ins
	r    int
}

// local is a local one that is known, and its register.
type local struct {
	name  string
	truth bool
	r     int
}

// maker makes programs, each part together with what it has to become, out of a number, always the same ones.
type maker struct {
	seed   uint32
	number map[string]int // of what is declared, among those of its like
	params []int          // how many each of the funcs has
	at     int            // those of them that are ahead of this one may be called
	regs   int            // how many registers the Fun has up to here
	count  int            // how many local ones
	known  []local
}

func (m *maker) next(n int) int {
	m.seed = m.seed*1664525 + 1013904223
	return int(m.seed>>8) % n
}

func pick[T any](m *maker, l ...T) T { return l[m.next(len(l))] }

func (m *maker) take() int {
	m.regs++
	return m.regs - 1
}

func (m *maker) fresh(truth bool) local {
	m.count++
	x := local{"v" + strconv.Itoa(m.count), truth, m.take()}
	m.known = append(slices.Clip(m.known), x)
	return x
}

// old is a local one that is known, if there is one of the type.
func (m *maker) old(truth bool) (local, bool) {
	fit := slices.DeleteFunc(slices.Clone(m.known), func(x local) bool { return x.truth != truth })
	if len(fit) == 0 {
		return local{}, false
	}
	return pick(m, fit...), true
}

// then puts an instruction behind pieces, that writes a register.
func (m *maker) then(write func(r int) api.Ins, ahead ...piece) piece {
	var out piece
	for _, p := range ahead {
		out.code = append(out.code, p.code...)
	}
	out.r = m.take()
	out.code = append(out.code, write(out.r))
	return out
}

func (m *maker) leaf(truth bool) (api.Expr, piece) {
	x, ok := m.old(truth)
	e := api.Expr{Kind: api.Int, N: pick(m, 0, 1, int64(m.next(1000)), math.MaxInt64)}
	switch {
	case ok && m.next(3) > 0:
		return api.Expr{Kind: api.Var, Name: x.name}, piece{r: x.r}
	case truth:
		e = api.Expr{Kind: api.Bool, N: int64(m.next(2))}
	case m.next(2) == 0:
		e = api.Expr{Kind: api.Var, Name: pick(m, "x", "y")}
		return e, m.then(func(r int) api.Ins { return load(r, m.number[e.Name], -1) })
	}
	return e, m.then(func(r int) api.Ins { return constant(r, e.N) })
}

func (m *maker) expr(truth bool, deep int) (api.Expr, piece) {
	if deep == 0 || m.next(4) == 0 {
		return m.leaf(truth)
	}
	e, inner := api.Expr{Kind: pick(m, api.Index, api.Neg, api.Add, api.Sub, api.Mul, api.Div, api.Mod)}, false
	if truth {
		e.Kind = pick(m, api.Not, api.Less, api.LessEq, api.Equal, api.Unlike, api.And, api.Or)
		inner = e.Kind == api.Not || e.Kind >= api.And
	}
	first, a := m.expr(inner, deep-1)
	e.Args = []api.Expr{first}
	switch e.Kind {
	case api.Index:
		e.Name = pick(m, "a", "b")
		return e, m.then(func(r int) api.Ins { return load(r, m.number[e.Name], a.r) }, a)
	case api.Neg, api.Not:
		return e, m.then(func(r int) api.Ins { return unary(r, e.Kind, a.r) }, a)
	}
	second, b := m.expr(inner, deep-1)
	e.Args = append(e.Args, second)
	return e, m.then(func(r int) api.Ins { return binary(r, e.Kind, a.r, b.r) }, a, b)
}

// plain makes a statement that has no others within it, and is no Call.
func (m *maker) plain() (api.Stmt, []api.Ins) {
	truth := m.next(2) == 0
	switch m.next(5) {
	case 0:
		e, p := m.expr(truth, 3)
		x := m.fresh(truth)
		return api.Stmt{Kind: api.Let, Name: x.name, E: []api.Expr{e}}, append(p.code, move(x.r, p.r))
	case 1:
		if x, ok := m.old(truth); ok {
			e, p := m.expr(truth, 3)
			return api.Stmt{Kind: api.Set, Name: x.name, E: []api.Expr{e}}, append(p.code, move(x.r, p.r))
		}
	case 2:
		name := pick(m, "x", "y")
		e, p := m.expr(false, 3)
		return api.Stmt{Kind: api.Set, Name: name, E: []api.Expr{e}}, append(p.code, store(m.number[name], -1, p.r))
	case 3:
		name := pick(m, "a", "b")
		e, p := m.expr(false, 2)
		e2, p2 := m.expr(false, 2)
		return api.Stmt{Kind: api.Put, Name: name, E: []api.Expr{e, e2}}, append(slices.Concat(p.code, p2.code), store(m.number[name], p.r, p2.r))
	}
	e, p := m.expr(false, 3)
	return api.Stmt{Kind: api.Print, E: []api.Expr{e}}, append(p.code, show(p.r))
}

func (m *maker) call() (api.Stmt, []api.Ins) {
	if m.at == 0 {
		return m.plain()
	}
	callee := m.next(m.at)
	s := api.Stmt{Kind: api.Call, Name: "f" + strconv.Itoa(callee)}
	var args []piece
	i := api.Ins{Op: api.OCall, N: int64(m.number[s.Name])}
	for range m.params[callee] {
		e, p := m.expr(false, 2)
		s.E, args, i.Args = append(s.E, e), append(args, p), append(i.Args, p.r)
	}
	answer := m.then(func(r int) api.Ins { i.R = r; return i }, args...)
	x, ok := m.old(false)
	switch m.next(3) {
	case 0:
		return s, answer.code
	case 1:
		if ok {
			s.To = x.name
			return s, append(answer.code, move(x.r, answer.r))
		}
	}
	x = m.fresh(false)
	s.To, s.New = x.name, true
	return s, append(answer.code, move(x.r, answer.r))
}

func (m *maker) stmt(deep int) (api.Stmt, []api.Ins) {
	kind := pick(m, 0, 0, 0, api.Call, api.If, api.If, api.While, api.With)
	switch {
	case kind == api.Call:
		return m.call()
	case kind == 0 || deep == 0:
		return m.plain()
	case kind == api.With:
		name := pick(m, "k", "l")
		body, code := m.block(deep - 1)
		code = slices.Concat([]api.Ins{acquire(m.number[name])}, code, []api.Ins{release(m.number[name])})
		return api.Stmt{Kind: kind, Name: name, Body: body}, code
	}
	e, p := m.expr(true, 3)
	body, code := m.block(deep - 1)
	s := api.Stmt{Kind: kind, E: []api.Expr{e}, Body: body}
	if kind == api.While {
		code = append(code, jump(-len(code)-1-len(p.code)))
	} else if m.next(2) == 0 {
		var other []api.Ins
		if s.Else, other = m.block(deep - 1); len(s.Else) > 0 {
			return s, slices.Concat(p.code, []api.Ins{branch(p.r, len(code)+2)}, code, []api.Ins{jump(len(other) + 1)}, other)
		}
	}
	return s, slices.Concat(p.code, []api.Ins{branch(p.r, len(code)+1)}, code)
}

// list makes statements, behind which their local ones are still known.
func (m *maker) list(deep int) (out []api.Stmt, code []api.Ins) {
	for range m.next(5) {
		s, more := m.stmt(deep)
		out, code = append(out, s), append(code, more...)
	}
	return out, code
}

// block makes statements, behind which their local ones are known no longer.
func (m *maker) block(deep int) ([]api.Stmt, []api.Ins) {
	outer := m.known
	out, code := m.list(deep)
	m.known = outer
	return out, code
}

// body makes the Body of a declaration, with its Params, if it is a func, and the Fun.
func (m *maker) body(d *api.Decl) api.Fun {
	m.regs, m.count, m.known = 0, 0, nil
	m.at = len(m.params)
	if d.Kind == api.Func {
		m.at, _ = strconv.Atoi(d.Name[1:])
		for range m.params[m.at] {
			d.Params = append(d.Params, m.fresh(false).name)
		}
	}
	var code []api.Ins
	d.Body, code = m.list(3)
	if d.Kind == api.Func && m.next(2) == 0 {
		e, p := m.expr(false, 3)
		d.Body = append(d.Body, api.Stmt{Kind: api.Return, E: []api.Expr{e}})
		code = append(append(code, p.code...), back(p.r))
	} else {
		r := m.take()
		code = append(code, constant(r, 0), back(r))
	}
	return api.Fun{Name: d.Name, Thread: d.Kind == api.Thread, Params: len(d.Params), Regs: m.regs, Code: settled(code)}
}

// program makes a program, its declarations in any row, and what it has to become.
func (m *maker) program() ([]api.Decl, api.Prog) {
	l := []api.Decl{
		{Kind: api.Global, Name: "x", N: pick[int64](m, 0, 7, math.MinInt64, math.MaxInt64)}, {Kind: api.Global, Name: "y", N: -1},
		{Kind: api.Array, Name: "a", N: 3}, {Kind: api.Array, Name: "b", N: pick[int64](m, 1, api.MaxSize)},
		{Kind: api.Lock, Name: "k"}, {Kind: api.Lock, Name: "l"},
	}
	m.params = nil
	for i := range m.next(4) {
		m.params = append(m.params, pick(m, 0, 1, 2, api.MaxParams))
		l = append(l, api.Decl{Kind: api.Func, Name: "f" + strconv.Itoa(i)})
	}
	for i := range m.next(4) {
		l = append(l, api.Decl{Kind: api.Thread, Name: "t" + strconv.Itoa(i)})
	}
	for i := range l {
		j := i + m.next(len(l)-i)
		l[i], l[j] = l[j], l[i]
	}
	return l, m.become(l)
}

// become makes the Bodies of declarations, and what they all have to become.
func (m *maker) become(l []api.Decl) api.Prog {
	var p api.Prog
	m.number = map[string]int{}
	funs := 0
	for _, d := range l {
		switch d.Kind {
		case api.Global:
			m.number[d.Name] = len(p.Mems)
			p.Mems = append(p.Mems, api.Mem{Name: d.Name, Size: 1, First: d.N})
		case api.Array:
			m.number[d.Name] = len(p.Mems)
			p.Mems = append(p.Mems, api.Mem{Name: d.Name, Size: int(d.N)})
		case api.Lock:
			m.number[d.Name] = len(p.Locks)
			p.Locks = append(p.Locks, d.Name)
		default:
			m.number[d.Name] = funs
			funs++
		}
	}
	for i := range l {
		if l[i].Kind >= api.Func {
			p.Funs = append(p.Funs, m.body(&l[i]))
		}
	}
	return p
}

package run_test

import (
	"math"
	"slices"
	"strconv"
	"strings"
	"testing"

	"bobbin/api"
	"bobbin/code"
)

// The instructions, each with what it names alone.
func constant(r int, n int64) api.Ins     { return api.Ins{Op: api.OConst, R: r, N: n} }
func move(r, a int) api.Ins               { return api.Ins{Op: api.OMove, R: r, A: a} }
func unary(r int, k uint8, a int) api.Ins { return api.Ins{Op: api.OUnary, R: r, A: a, N: int64(k)} }
func load(r, mem, a int) api.Ins          { return api.Ins{Op: api.OLoad, R: r, A: a, N: int64(mem)} }
func store(mem, a, b int) api.Ins         { return api.Ins{Op: api.OStore, A: a, B: b, N: int64(mem)} }
func acquire(lock int) api.Ins            { return api.Ins{Op: api.OAcquire, N: int64(lock)} }
func release(lock int) api.Ins            { return api.Ins{Op: api.ORelease, N: int64(lock)} }
func show(a int) api.Ins                  { return api.Ins{Op: api.OPrint, A: a} }
func jump(n int) api.Ins                  { return api.Ins{Op: api.OJump, N: int64(n)} }
func branch(a, n int) api.Ins             { return api.Ins{Op: api.OBranch, A: a, N: int64(n)} }
func back(a int) api.Ins                  { return api.Ins{Op: api.OReturn, A: a} }
func binary(r int, k uint8, a, b int) api.Ins {
	return api.Ins{Op: api.OBinary, R: r, A: a, B: b, N: int64(k)}
}
func call(r, fun int, args ...int) api.Ins {
	return api.Ins{Op: api.OCall, R: r, N: int64(fun), Args: args}
}

// maker makes programs and numbers out of a number, always the same ones.
type maker struct {
	seed  uint64
	known []string // the local ones of a text that are known
	count int      // how many there were
}

func (m *maker) bits() uint64 {
	m.seed = m.seed*6364136223846793005 + 1442695040888963407
	high := m.seed >> 32
	m.seed = m.seed*6364136223846793005 + 1442695040888963407
	return high<<32 | m.seed>>32
}

func (m *maker) next(n int) int { return int(m.bits() >> 1 % uint64(n)) }

func pick[T any](m *maker, l ...T) T { return l[m.next(len(l))] }

// program makes a program of instructions that may be, that jump to wherever they like.
func (m *maker) program(t *testing.T) api.Prog {
	t.Helper()
	var p api.Prog
	for i := range m.next(4) {
		p.Mems = append(p.Mems, api.Mem{Name: "x" + strconv.Itoa(i), Size: pick(m, 1, 2, 3), First: int64(m.next(5)) - 1})
	}
	for i := range m.next(4) {
		p.Locks = append(p.Locks, "k"+strconv.Itoa(i))
	}
	for i := range 1 + m.next(6) {
		f := api.Fun{Name: "f" + strconv.Itoa(i), Thread: m.next(3) > 0}
		if !f.Thread {
			f.Params = pick(m, 0, 1, 2, 3)
		}
		f.Regs = f.Params + 1 + m.next(4)
		f.Code = make([]api.Ins, 2+m.next(14))
		p.Funs = append(p.Funs, f)
	}
	for fun, f := range p.Funs {
		for at := range f.Code {
			f.Code[at] = m.ins(p, fun)
		}
		f.Code[len(f.Code)-1] = pick(m, back(m.next(f.Regs)), jump(m.next(len(f.Code))))
	}
	if !code.May(p) {
		t.Fatalf("made what may not be: %+v", p)
	}
	return p
}

// ins makes an instruction that may be in a Fun.
func (m *maker) ins(p api.Prog, fun int) api.Ins {
	f := p.Funs[fun]
	for {
		r, a, b := m.next(f.Regs), m.next(f.Regs), m.next(f.Regs)
		n := m.next(len(f.Code))
		i := pick(m, constant(r, int64(m.next(4))), constant(r, pick[int64](m, -1, 0, math.MinInt64, math.MaxInt64)), move(r, a),
			unary(r, pick(m, api.Neg, api.Not), a), binary(r, api.Add+uint8(m.next(11)), a, b),
			load(r, m.next(3), pick(m, -1, -1, -1, a)), store(m.next(3), pick(m, -1, -1, -1, a), b), load(r, m.next(3), -1), store(m.next(3), -1, b),
			acquire(m.next(3)), pick(m, acquire(m.next(3)), release(m.next(3))), show(a), show(b), m.calls(p, r, f.Regs), jump(n), branch(a, n), back(a))
		if code.MayIns(p, fun, i) {
			return i
		}
	}
}

// calls makes an OCall of a Fun that may be none that can be called.
func (m *maker) calls(p api.Prog, r, regs int) api.Ins {
	fun := m.next(len(p.Funs))
	i := call(r, fun)
	for range p.Funs[fun].Params {
		i.Args = append(i.Args, m.next(regs))
	}
	return i
}

// text makes a text, whose loops end, of some threads.
func (m *maker) text(threads int) string {
	s := []string{"global x = 2; global y = -1; array a[3]; lock k; lock l;"}
	for i, params := range []string{"p", "p, q"} {
		m.known = strings.Split(params, ", ")
		s = append(s, "func f"+strconv.Itoa(i)+"("+params+") {"+m.block(1, i)+" return "+m.expr(2)+"; }")
	}
	for i := range threads {
		m.known = nil
		s = append(s, "thread t"+strconv.Itoa(i)+" {"+m.block(2, 2)+"}")
	}
	return strings.Join(s, "\n")
}

func (m *maker) expr(deep int) string {
	if deep > 0 && m.next(2) == 0 {
		return "(" + m.expr(deep-1) + pick(m, " + ", " - ", " * ", " + ", " - ", " + ", " / ", " % ") + m.expr(deep-1) + ")"
	}
	leaves := append([]string{strconv.Itoa(m.next(4)), "x", "y", "a[" + m.place() + "]"}, m.known...)
	return pick(m, leaves...)
}

// place makes a place of an array of three cells, seldom one that it has not.
func (m *maker) place() string {
	return pick(m, "0", "1", "2", "0", "1", "2", "1", "x", "2 - 1", "0 - 0", pick(m, "2", "3", "y"))
}

func (m *maker) fresh() string {
	m.count++
	return "v" + strconv.Itoa(m.count)
}

// block makes statements; the first ones of the funcs may be called.
func (m *maker) block(deep, funcs int) string {
	outer := m.known
	var s []string
	for range 1 + m.next(3) {
		s = append(s, m.stmt(deep, funcs))
	}
	m.known = outer
	return " " + strings.Join(s, " ") + " "
}

func (m *maker) stmt(deep, funcs int) string {
	kind := m.next(10)
	name := m.fresh()
	switch {
	case kind == 0 && deep > 0:
		return "if " + m.expr(1) + pick(m, " < ", " == ", " != ") + m.expr(1) + " {" + m.block(deep-1, funcs) + "} else {" + m.block(deep-1, funcs) + "}"
	case kind == 1 && deep > 0:
		return "var " + name + " = " + strconv.Itoa(m.next(3)) + "; while 0 < " + name + " {" + m.block(deep-1, funcs) + name + " = " + name + " - 1; }"
	case kind <= 4 && deep > 0:
		return "with " + pick(m, "k", "l") + " {" + m.block(deep-1, funcs) + "}"
	case kind == 5 && funcs > 0:
		f := m.next(funcs)
		args := strings.Join(slices.Repeat([]string{m.expr(1)}, f+1), ", ")
		m.known = append(slices.Clip(m.known), name)
		return "var " + name + " = call f" + strconv.Itoa(f) + "(" + args + ");"
	case kind == 6:
		e := m.expr(2)
		m.known = append(slices.Clip(m.known), name)
		return "var " + name + " = " + e + ";"
	case kind == 7:
		return "print " + m.expr(2) + ";"
	case kind == 8:
		return "a[" + m.place() + "] = " + m.expr(1) + ";"
	}
	return pick(m, "x", "y") + " = " + m.expr(2) + ";"
}

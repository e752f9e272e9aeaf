package step_test

import (
	"math"
	"slices"
	"strconv"
	"testing"

	"bobbin/api"
	"bobbin/step"
)

// at6 is where the instruction stands that a row is about; other is where it may jump to.
const at6, other = 6, 8

// begin are the registers of a row ahead of its instruction.
func begin() []int64 { return []int64{0, 2, -1, 3, math.MinInt64, 1 << 32} }

// rowed is a program whose thread 0 sets its registers, comes to an instruction, and prints all its registers behind that.
// Its Fun 1 prints its registers and answers the last one of its Params.
func rowed(i api.Ins) api.Prog {
	var l []api.Ins
	for r, n := range begin() {
		l = append(l, constant(r, n))
	}
	l = append(l, i, jump(9), jump(9))
	for r := range begin() {
		l = append(l, show(r))
	}
	p := threads(len(begin()), append(l, constant(0, 0), back(0)), []api.Ins{acquire(1), constant(0, 1), release(1), back(0)})
	f := api.Fun{Name: "f", Params: 2, Regs: 4, Code: []api.Ins{show(0), show(1), show(2), show(3), constant(0, 99), constant(3, 99), back(1)}}
	p.Funs = slices.Insert(p.Funs, 1, f)
	return p
}

// row is what an instruction leaves: a register that became something, or none, the next instruction, cells.
type row struct {
	ins  api.Ins
	r    int // -1: none
	v    int64
	next int
	mem  int // -1: no cell
	at   int
	cell int64
}

// sets is a row of an instruction that sets a register.
func sets(i api.Ins, v int64) row { return row{ins: i, r: i.R, v: v, next: at6 + 1, mem: -1} }

// puts is a row of an instruction that puts something into a cell.
func puts(i api.Ins, mem, at int, cell int64) row {
	return row{ins: i, r: -1, next: at6 + 1, mem: mem, at: at, cell: cell}
}

// goes is a row of an instruction that leaves all but where it goes.
func goes(i api.Ins, next int) row { return row{ins: i, r: -1, next: next, mem: -1} }

// rows are instructions that are not Trapped.
func rows() []row {
	const least = math.MinInt64
	l := []row{
		sets(constant(3, 0), 0), sets(constant(0, least), least), sets(constant(5, math.MaxInt64), math.MaxInt64),
		sets(move(0, 1), 2), sets(move(4, 4), least), sets(move(1, 0), 0), sets(move(2, 5), 1<<32),
		sets(unary(0, api.Neg, 1), -2), sets(unary(1, api.Neg, 1), -2), sets(unary(5, api.Neg, 4), least), sets(unary(1, api.Not, 0), 1), sets(unary(1, api.Not, 4), 0), sets(unary(0, api.Not, 0), 1),
		sets(binary(0, api.Add, 1, 3), 5), sets(binary(0, api.Sub, 1, 3), -1), sets(binary(3, api.Sub, 3, 1), 1), sets(binary(4, api.Add, 4, 2), math.MaxInt64), sets(binary(1, api.Mul, 5, 5), 0),
		sets(binary(0, api.Div, 4, 2), least), sets(binary(0, api.Mod, 4, 2), 0), sets(binary(0, api.Div, 3, 1), 1), sets(binary(0, api.Mod, 3, 1), 1), sets(binary(5, api.Div, 0, 1), 0),
		sets(binary(0, api.Less, 2, 0), 1), sets(binary(3, api.Less, 0, 2), 0), sets(binary(0, api.LessEq, 1, 1), 1), sets(binary(0, api.Equal, 1, 3), 0), sets(binary(0, api.Unlike, 1, 3), 1), sets(binary(1, api.And, 0, 1), 0), sets(binary(0, api.Or, 0, 1), 1),
		sets(load(0, 0, -1), 7), sets(load(3, 0, 0), 7), sets(load(0, 1, -1), -2), sets(load(0, 1, 0), -2), sets(load(0, 1, 1), -2), sets(load(1, 1, 1), -2), sets(load(1, 2, -1), 0),
		puts(store(0, -1, 5), 0, 0, 1<<32), puts(store(0, 0, 3), 0, 0, 3), puts(store(1, -1, 4), 1, 0, least), puts(store(1, 0, 0), 1, 0, 0), puts(store(1, 1, 1), 1, 2, 2), puts(store(2, -1, 2), 2, 0, -1),
		goes(acquire(0), at6+1), goes(show(4), at6+1), goes(jump(other), other), goes(jump(at6+1), at6+1), goes(jump(14), 14),
		goes(branch(0, other), other), goes(branch(1, other), at6+1), goes(branch(2, other), at6+1), goes(branch(4, other), at6+1), goes(branch(5, other), at6+1), goes(branch(0, at6+1), at6+1),
	}
	return l
}

// P9.1: each operation of the table by itself: registers, cells, the next instruction, held against the table.
func TestTable(t *testing.T) {
	met := map[uint8]int{}
	for _, x := range rows() {
		met[x.ins.Op]++
		p := rowed(x.ins)
		s, j := begun(t, p), judged(p)
		for range at6 {
			steps(t, s, 0)
			j.step(0)
		}
		what := "of " + strconv.Itoa(int(x.ins.Op)) + " to " + strconv.Itoa(x.ins.R)
		cells := s.Cells()
		steps(t, s, 0)
		j.step(0)
		j.agree(t, s)
		stands(t, s, 0, 0, x.next)
		if x.mem >= 0 {
			cells[x.mem][x.at] = x.cell
		}
		expect(t, "Cells "+what, s.Cells(), cells)
		held(t, s, 0, 0, x.ins.Op == api.OAcquire)
		var out []int64
		if x.ins.Op == api.OPrint {
			out = append(out, begin()[x.ins.A])
		}
		expect(t, "Out "+what, s.Out(), out)
		want := begin()
		if x.r >= 0 {
			want[x.r] = x.v
		}
		for s.Can(0) {
			steps(t, s, 0)
		}
		from := max(x.next, 9) - 9
		expect(t, "the registers "+what, s.Out(), append(out, want[from:]...))
		expect(t, "the ending", s.Ending(), api.Running)
		stands(t, s, 1, 2, 0)
	}
	for _, op := range []uint8{api.OConst, api.OMove, api.OUnary, api.OBinary, api.OLoad, api.OStore, api.OAcquire, api.OPrint, api.OJump, api.OBranch} {
		if met[op] == 0 {
			t.Error("no row of", op)
		}
	}
}

// P9.1: what is Trapped: the ending is all that changes, and the instruction is the next one still.
func TestTrapped(t *testing.T) {
	for _, i := range []api.Ins{
		binary(0, api.Div, 1, 0), binary(0, api.Mod, 1, 0), binary(1, api.Div, 4, 0), binary(0, api.Mod, 0, 0),
		load(0, 0, 1), load(0, 0, 2), load(0, 0, 4), load(0, 0, 5), load(0, 1, 3), load(0, 1, 2), load(0, 1, 4), load(1, 1, 5), load(0, 2, 1),
		store(0, 1, 3), store(0, 2, 3), store(0, 4, 3), store(0, 5, 3), store(1, 3, 0), store(1, 2, 0), store(1, 4, 0), store(1, 5, 0), store(2, 3, 3),
		release(0), release(1),
	} {
		p := rowed(i)
		s, j := begun(t, p), judged(p)
		for _, thread := range append([]int{1}, slices.Repeat([]int{0}, at6)...) {
			steps(t, s, thread) // 1 holds the lock 1
			j.step(thread)
		}
		cell, has := s.Cell(0)
		expect(t, "Cell", []any{cell, has}, []any{api.Access{}, false})
		expect(t, "Can", s.Can(0), true)
		cells := s.Cells()
		steps(t, s, 0)
		j.step(0)
		j.agree(t, s)
		expect(t, "Ending", s.Ending(), api.Trapped)
		stands(t, s, 0, 0, at6)
		stands(t, s, 1, 2, 1)
		expect(t, "Cells", s.Cells(), cells)
		expect(t, "Out", s.Out(), nil)
		held(t, s, 0, 0, false)
		held(t, s, 1, 1, true)
		expect(t, "Can", s.Can(0) || s.Can(1), false)
		refused(t, s, api.ErrState)
	}
}

// P9.1: a lock is given by who holds it, and is nobody's then.
func TestRelease(t *testing.T) {
	l := []api.Ins{acquire(1), acquire(0), release(1), acquire(1), release(0), release(1), back(0)}
	s := begun(t, threads(1, l))
	for i, want := range [][2]bool{{false, true}, {true, true}, {true, false}, {true, true}, {false, true}, {false, false}, {false, false}} {
		steps(t, s, 0)
		held(t, s, 0, 0, want[0])
		held(t, s, 1, 0, want[1])
		if i < 6 {
			stands(t, s, 0, 0, i+1)
		}
	}
	expect(t, "Ending", s.Ending(), api.Done)
	// What was given can't be given again.
	s = begun(t, threads(1, []api.Ins{acquire(0), release(0), release(0), back(0)}))
	steps(t, s, 0, 0, 0)
	expect(t, "Ending", s.Ending(), api.Trapped)
	stands(t, s, 0, 0, 2)
}

// P9.1: a call: a frame of its own with Args in its first registers, all others 0; behind it R becomes the answer, and no other register.
func TestCall(t *testing.T) {
	for _, x := range []struct {
		ins         api.Ins
		first, back int64
	}{
		{call(0, 1, 3, 2), 3, -1}, {call(5, 1, 4, 4), math.MinInt64, math.MinInt64}, {call(1, 1, 1, 5), 2, 1 << 32}, {call(2, 1, 0, 0), 0, 0},
	} {
		p := rowed(x.ins)
		s, j := begun(t, p), judged(p)
		for at := range at6 + 1 {
			stands(t, s, 0, 0, at)
			steps(t, s, 0)
			j.step(0)
		}
		for at := range 7 {
			stands(t, s, 0, 1, at)
			j.agree(t, s)
			steps(t, s, 0)
			j.step(0)
		}
		stands(t, s, 0, 0, at6+1)
		j.agree(t, s)
		out := []int64{x.first, x.back, 0, 0}
		expect(t, "Out", s.Out(), out)
		want := begin()
		want[x.ins.R] = x.back
		for s.Can(0) {
			steps(t, s, 0)
		}
		expect(t, "Out behind it", s.Out(), append(out, want...))
	}
}

// P9.1: calls within calls, of several threads at a time, with as many Params as there may be; what stands below goes on behind its OCall.
func TestCalls(t *testing.T) {
	p := threads(9, []api.Ins{constant(8, 1000), call(8, 3, 1, 2, 3, 4, 5, 6, 7, 8), show(8), back(0)}, []api.Ins{constant(3, 5), call(0, 2, 3), show(0), show(3), back(0)})
	down := []api.Ins{ // f(n): n, if that is 0, else 2 * f(n - 1) + n
		branch(0, 6), constant(1, 1), binary(1, api.Sub, 0, 1), call(1, 2, 1), binary(1, api.Add, 1, 1), binary(0, api.Add, 0, 1), back(0),
	}
	eight := []api.Ins{constant(8, 1), binary(7, api.Add, 7, 8), show(7), call(9, 2, 1), back(7)}
	p.Funs = append(p.Funs, api.Fun{Name: "f", Params: 1, Regs: 2, Code: down}, api.Fun{Name: "g", Params: 8, Regs: 10, Code: eight})
	s, j := begun(t, p), judged(p)
	for n := 0; s.Ending() == api.Running; n++ {
		thread, err := s.Pick(n * n)
		expect(t, "Pick", err, api.OK)
		expect(t, "who is next", thread, j.pick(n*n))
		j.step(thread)
		j.agree(t, s)
	}
	out := s.Out()
	slices.Sort(out)
	expect(t, "Out", out, []int64{5, 57, 1001, 1001})
	expect(t, "Ending", s.Ending(), api.Done)
}

// P9.1, P9.3: as many registers, instructions, locks and frames as there may be.
func TestLarge(t *testing.T) {
	l := slices.Repeat([]api.Ins{constant(api.MaxRegs-1, 4)}, api.MaxIns-2)
	l = append(l, show(api.MaxRegs-1), back(0))
	l[0] = branch(0, api.MaxIns-3)
	s := begun(t, threads(api.MaxRegs, l))
	steps(t, s, 0)
	stands(t, s, 0, 0, api.MaxIns-3)
	steps(t, s, 0, 0, 0)
	expect(t, "Out", s.Out(), []int64{4})
	expect(t, "Ending", s.Ending(), api.Done)

	p := threads(1, []api.Ins{acquire(api.MaxDecls - 6), back(0)})
	p.Mems = append(p.Mems, api.Mem{Name: "last", Size: api.MaxSize, First: 1})
	for len(p.Locks) < api.MaxDecls-5 {
		p.Locks = append(p.Locks, "m"+strconv.Itoa(len(p.Locks)))
	}
	s = begun(t, p)
	steps(t, s, 0)
	held(t, s, api.MaxDecls-6, 0, true)
	held(t, s, api.MaxDecls-7, 0, false)

	deep := threads(1, []api.Ins{call(0, 1), back(0)})
	deep.Funs = append(deep.Funs, api.Fun{Name: "f", Regs: 9, Code: []api.Ins{constant(0, 1), call(0, 1), back(0)}})
	s = begun(t, deep)
	for range api.MaxFuel {
		steps(t, s, 0)
	}
	stands(t, s, 0, 1, 1)
	c := s.Copy()
	expect(t, "a copy", step.Same(s, c), true)
	steps(t, c, 0)
	expect(t, "a copy that went on", step.Same(s, c), false)
	stands(t, s, 0, 1, 1)
	stands(t, c, 0, 1, 0)
}

// P9.3: a thread's cell, of each operation that has one, at the first place, at the last one, and beyond.
func TestCell(t *testing.T) {
	for _, x := range []struct {
		ins  api.Ins
		want api.Access
		has  bool
	}{
		{load(0, 0, -1), api.Access{Mem: 0}, true}, {load(0, 0, 0), api.Access{Mem: 0}, true}, {load(0, 1, 1), api.Access{Mem: 1, Place: 2}, true}, {load(0, 1, -1), api.Access{Mem: 1}, true},
		{store(2, -1, 1), api.Access{Mem: 2, Write: true}, true}, {store(1, 1, 1), api.Access{Mem: 1, Place: 2, Write: true}, true}, {store(1, 0, 1), api.Access{Mem: 1, Write: true}, true},
		{load(0, 1, 3), api.Access{}, false}, {load(0, 1, 2), api.Access{}, false}, {load(0, 1, 4), api.Access{}, false}, {load(0, 1, 5), api.Access{}, false}, {load(0, 0, 1), api.Access{}, false},
		{store(1, 3, 1), api.Access{}, false}, {store(1, 2, 1), api.Access{}, false}, {store(1, 5, 1), api.Access{}, false}, {store(2, 1, 1), api.Access{}, false},
		{constant(0, 1), api.Access{}, false}, {move(0, 1), api.Access{}, false}, {unary(0, api.Neg, 1), api.Access{}, false}, {binary(0, api.Add, 1, 1), api.Access{}, false},
		{acquire(1), api.Access{}, false}, {release(1), api.Access{}, false}, {show(1), api.Access{}, false}, {call(0, 1, 1, 1), api.Access{}, false}, {jump(1), api.Access{}, false}, {branch(1, 1), api.Access{}, false}, {back(1), api.Access{}, false},
	} {
		s := begun(t, rowed(x.ins))
		for range at6 {
			steps(t, s, 0)
		}
		for range 2 { // asked twice: nothing changes by that
			cell, has := s.Cell(0)
			if cell != x.want || has != x.has {
				t.Errorf("Cell of %+v: %v, %v, not %v, %v", x.ins, cell, has, x.want, x.has)
			}
		}
	}
}

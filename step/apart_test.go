package step_test

import (
	"slices"
	"testing"

	"bobbin/api"
	"bobbin/step"
)

// behind is the state of a program behind a row of steps.
func behind(t *testing.T, p api.Prog, row ...int) *step.State {
	t.Helper()
	s := begun(t, p)
	steps(t, s, row...)
	return s
}

// fork is a program whose thread 0 asks what x (at first 7) is: at 0 it goes on to the first ones, else to the second ones, and behind those on.
// Its thread 1 lets x be 0, and 7 again: so by the row 0 1 1 1 the register that has asked is 7, by 1 0 1 1 it is 0, and nothing else is another one.
func fork(first, second []api.Ins) api.Prog {
	l := slices.Concat([]api.Ins{load(0, 0, -1), branch(0, len(second)+3)}, second, []api.Ins{jump(len(second) + len(first) + 3)}, first)
	l = append(l, constant(0, 7), constant(1, 7), back(0))
	p := threads(2, l, []api.Ins{store(0, -1, 0), constant(0, 7), store(0, -1, 0), back(0)})
	p.Funs = append(p.Funs, api.Fun{Name: "f", Regs: 1, Code: []api.Ins{jump(0)}}, api.Fun{Name: "g", Regs: 1, Code: []api.Ins{jump(0)}})
	return p
}

// P9.3: the same, and what is not, in one thing alone, asked either way about.
func TestSame(t *testing.T) {
	lazy := []api.Ins{jump(0)}
	jumps := func(i api.Ins) []api.Ins { return []api.Ins{i, jump(1)} }
	stay := threads(1, lazy, lazy, jumps(constant(0, 3)), jumps(load(0, 0, -1)))
	printed := threads(1, []api.Ins{constant(0, 4), show(0), jump(2)}, []api.Ins{show(0), jump(1)})
	stored := threads(1, []api.Ins{constant(0, 4), store(1, -1, 0), jump(2)}, []api.Ins{store(1, -1, 0), jump(1)})
	taken := threads(1, []api.Ins{acquire(0), release(0), jump(2)}, []api.Ins{acquire(0), release(0), jump(2)})
	trap := threads(1, []api.Ins{constant(0, 0), binary(0, api.Div, 0, 0), back(0)}, lazy)
	one, other := []int{0, 1, 1, 1}, []int{1, 0, 1, 1}
	nop := jump(3)
	for _, x := range []struct {
		what string
		p    api.Prog
		a, b []int
		same bool
	}{
		{"nothing done", stay, nil, nil, true},
		{"one row", stay, []int{2, 3, 0}, []int{2, 3, 0}, true},
		{"another row of it", stay, []int{2, 3, 0}, []int{3, 2, 0}, true},
		{"steps that change nothing", stay, []int{0, 1, 1, 0}, []int{0}, true},
		{"who went last", stay, []int{0, 1}, []int{1, 0}, false},
		{"whether somebody did", stay, nil, []int{0}, false},
		{"whether somebody else did", stay, []int{1}, []int{0}, false},
		{"where a thread stands", stay, []int{2, 0}, []int{0}, false},
		{"what was printed, its row", printed, []int{0, 0, 1, 0}, []int{0, 1, 0, 0}, false},
		{"the row of who printed one number", threads(1, jumps(show(0)), jumps(show(0)), lazy), []int{0, 1, 2}, []int{1, 0, 2}, true},
		{"a cell", stored, []int{0, 0, 1, 0}, []int{0, 1, 0, 0}, false},
		{"taken and given, in another row", taken, []int{0, 0, 1, 1, 0}, []int{1, 1, 0, 0, 0}, true},
		{"the ending", trap, []int{0}, []int{0, 0}, false},
		{"a register", fork([]api.Ins{nop}, []api.Ins{nop}), one, other, false},
		{"who stands where", fork(nil, nil), append(one, 0), append(other, 0, 0), false},
		{"whether a lock is held", fork([]api.Ins{acquire(0)}, nil), append(one, 0, 0, 0), append(other, 0, 0, 0), false},
		{"which lock is held", fork([]api.Ins{acquire(0)}, []api.Ins{acquire(1)}), append(one, 0, 0, 0, 0), append(other, 0, 0, 0), false},
		{"which Fun is called", fork([]api.Ins{call(1, 2)}, []api.Ins{call(1, 3), jump(2)}), append(one, 0, 0), append(other, 0, 0), false},
	} {
		a, b := behind(t, x.p, x.a...), behind(t, x.p, x.b...)
		if step.Same(a, b) != x.same || step.Same(b, a) != x.same || !step.Same(a, a) || !step.Same(a, a.Copy()) || !step.Same(b.Copy(), b) {
			t.Errorf("%s: the same, or not: not %v", x.what, x.same)
		}
	}
}

// P9.3: of two states of which one has a frame more, or a thread that is gone.
func TestSameFrames(t *testing.T) {
	deep := threads(1, []api.Ins{call(0, 1), back(0)})
	deep.Funs = append(deep.Funs, api.Fun{Name: "f", Regs: 1, Code: []api.Ins{branch(0, 1), call(0, 1), back(0)}})
	a := begun(t, deep)
	for range 9 {
		b := a.Copy()
		steps(t, b, 0)
		expect(t, "behind a step", step.Same(a, b) || step.Same(b, a), false)
		a = b
	}
	p := threads(1, []api.Ins{back(0)}, []api.Ins{jump(0)})
	expect(t, "a thread that is gone", step.Same(behind(t, p, 1, 0, 1), behind(t, p, 1)), false)
	expect(t, "gone, in another row", step.Same(behind(t, p, 1, 0, 1), behind(t, p, 0, 1)), true)
}

// P9.3, P9.7: a frame below the last one is a copy's own, too.
func TestDeepCopies(t *testing.T) {
	p := threads(1, []api.Ins{call(0, 1), show(0), back(0)})
	p.Funs = append(p.Funs, api.Fun{Name: "f", Regs: 2, Code: []api.Ins{constant(0, 5), call(0, 2), show(0), show(1), back(1)}},
		api.Fun{Name: "g", Regs: 1, Code: []api.Ins{load(0, 0, -1), back(0)}})
	s := behind(t, p, 0, 0, 0)
	for _, two := range [][2]*step.State{{s.Copy(), s.Copy().Copy()}, {s.Copy(), s}} {
		first, second := two[0], two[1]
		steps(t, first, 0, 0, 0, 0)
		expect(t, "Out", first.Out(), []int64{7, 0})
		stands(t, second, 0, 2, 0)
		expect(t, "Out of the other one", second.Out(), nil)
		steps(t, second, 0, 0)
		stands(t, second, 0, 1, 2)
		stands(t, first, 0, 1, 4)
		steps(t, first, 0, 0)
		steps(t, second, 0, 0, 0, 0)
		expect(t, "Outs", [][]int64{first.Out(), second.Out()}, [][]int64{{7, 0, 0}, {7, 0, 0}})
		steps(t, first, 0)
		gone(t, first, 0)
		stands(t, second, 0, 0, 2)
		expect(t, "Endings", []uint8{first.Ending(), second.Ending()}, []uint8{api.Done, api.Running})
	}
}

// P9.3, P9.7: what was printed up to the copy is both ones', and what is printed behind it each one's own, however much it is.
func TestCopiesOut(t *testing.T) {
	prints := []api.Ins{constant(0, 1), show(0), jump(1)}
	p := threads(1, prints, []api.Ins{constant(0, 2), show(0), jump(1)})
	s := behind(t, p, 0, 1)
	for n := range 40 {
		c := s.Copy()
		steps(t, c, 1)
		steps(t, s, 0)
		expect(t, "Out", s.Out(), slices.Repeat([]int64{1}, n+1))
		expect(t, "Out of the copy", c.Out(), append(slices.Repeat([]int64{1}, n), 2))
		steps(t, c, 1, 1, 1)
		expect(t, "Out", s.Out(), slices.Repeat([]int64{1}, n+1))
		steps(t, s, 0)
	}
}

// P9.3: states of two programs, that differ in a frame's Fun, or in its registers alone.
func TestSamePrograms(t *testing.T) {
	lazy := []api.Ins{jump(0)}
	p := threads(1, lazy)
	p2, p3 := threads(1, lazy), threads(2, lazy)
	expect(t, "two states of like programs", step.Same(behind(t, p, 0), behind(t, p2, 0)), true)
	p2.Funs = []api.Fun{{Name: "f", Regs: 1, Code: lazy}, p2.Funs[0]}
	expect(t, "another Fun", step.Same(begun(t, p), begun(t, p2)), false)
	expect(t, "a register more", step.Same(begun(t, p), begun(t, p3)), false)
}

// R3: what is handed in is not kept, nor read behind its end, nor changed.
func TestHandedIn(t *testing.T) {
	make2 := func() api.Prog {
		p := threads(2, []api.Ins{constant(1, 3), call(0, 1, 1), show(0), load(0, 1, 1), back(0)})
		p.Funs = append(p.Funs, api.Fun{Name: "f", Params: 1, Regs: 2, Code: []api.Ins{show(0), show(1), acquire(1), back(0)}})
		return p
	}
	p := make2()
	// Behind the ends stands what may not be.
	p.Mems = append(p.Mems, api.Mem{Size: -1})[:3]
	p.Locks = append(p.Locks, "if", "k")[:2]
	p.Funs = append(p.Funs, api.Fun{Name: "t0", Thread: true, Regs: -1})[:2]
	for fun := range p.Funs {
		f := &p.Funs[fun]
		f.Code = append(f.Code, api.Ins{Op: 99, R: -1})[:len(f.Code)]
		for at := range f.Code {
			f.Code[at].Args = append(f.Code[at].Args, -7, 99)[:len(f.Code[at].Args)]
		}
	}
	s, j := begun(t, p), judged(make2())
	j.agree(t, s)
	expect(t, "what was handed in", p, make2())
	c := s.Copy()
	for i := range p.Mems {
		p.Mems[i] = api.Mem{Name: "z", Size: 9, First: 99}
	}
	clear(p.Locks)
	for fun := range p.Funs {
		f := &p.Funs[fun]
		for at := range f.Code {
			clear(f.Code[at].Args)
			f.Code[at] = api.Ins{Op: api.OPrint, A: 99}
		}
		*f = api.Fun{}
	}
	for range 9 {
		j.agree(t, s)
		j.agree(t, c)
		if j.ending() == api.Running {
			steps(t, s, 0)
			steps(t, c, 0)
			j.step(0)
		}
	}
	expect(t, "Out", s.Out(), []int64{3, 0, 3})
	expect(t, "Ending", s.Ending(), api.Trapped)
}

// R3, P9.3: what is handed out is new each time, its spare room too, and no two of its lists share any.
func TestHandedOut(t *testing.T) {
	m := &maker{seed: 9}
	for _, p := range programs(t, 19, 100) {
		s, j := begun(t, p), judged(p)
		for range 40 {
			c := s.Copy()
			spoil(s.Out())
			cells := s.Cells()
			for i, l := range cells {
				spoil(l)
				for _, other := range cells[i+1:] {
					if slices.Contains(other, -77000) {
						t.Fatal("two lists of one answer share something")
					}
				}
			}
			clear(cells[:cap(cells)])
			races := s.Races()
			clear(races[:cap(races)])
			j.agree(t, s)
			j.agree(t, c)
			expect(t, "the same", step.Same(s, c), true)
			if j.ending() != api.Running {
				break
			}
			forward(t, m, s, j)
		}
	}
}

// spoil writes into a list and the room behind its end.
func spoil(l []int64) {
	l = l[:cap(l)]
	for i := range l {
		l[i] = -77000
	}
}

package step_test

import (
	"fmt"
	"math"
	"slices"
	"strconv"
	"testing"

	"bobbin/api"
	"bobbin/flat"
	"bobbin/parse"
	"bobbin/step"
)

// expect holds two things of one type against each other, all that is in them; an empty list may be nil.
func expect[T any](t *testing.T, what string, got, want T) {
	t.Helper()
	if g, w := fmt.Sprintf("%+v", got), fmt.Sprintf("%+v", want); g != w {
		t.Fatalf("%s: %s, not %s", what, g, w)
	}
}

// made is the program of a text.
func made(t *testing.T, s string) api.Prog {
	t.Helper()
	l, at, err := parse.Parse(s)
	if err != api.OK {
		t.Fatalf("%q can't be read: %v at %d", s, err, at)
	}
	p, err := flat.Make(l)
	if err != api.OK {
		t.Fatalf("%q can't be made: %v", s, err)
	}
	return p
}

// begun is the state in which a program begins, which it has to.
func begun(t *testing.T, p api.Prog) *step.State {
	t.Helper()
	s, err := step.New(p)
	if s == nil || err != api.OK {
		t.Fatalf("New: %v of %+v", err, p)
	}
	return s
}

// steps does steps, that must not be refused.
func steps(t *testing.T, s *step.State, row ...int) {
	t.Helper()
	for i, thread := range row {
		if err := s.Step(thread); err != api.OK {
			t.Fatalf("Step(%d), the step %d of %v: %v", thread, i, row, err)
		}
	}
}

// stands asks where a thread stands.
func stands(t *testing.T, s *step.State, thread, fun, at int) {
	t.Helper()
	if f, n, is := s.At(thread); f != fun || n != at || !is {
		t.Fatalf("At(%d): %d, %d, %v, not %d, %d", thread, f, n, is, fun, at)
	}
}

// gone asks for a thread without frames.
func gone(t *testing.T, s *step.State, thread int) {
	t.Helper()
	if f, n, is := s.At(thread); f != 0 || n != 0 || is || s.Can(thread) {
		t.Fatalf("At(%d): %d, %d, %v, Can: %v", thread, f, n, is, s.Can(thread))
	}
}

// held asks who holds a lock.
func held(t *testing.T, s *step.State, lock, who int, is bool) {
	t.Helper()
	if n, ok := s.Holder(lock); n != who || ok != is {
		t.Fatalf("Holder(%d): %d, %v, not %d, %v", lock, n, ok, who, is)
	}
}

// refused asks for an error of each way to do a step, by which nothing changes.
func refused(t *testing.T, s *step.State, want api.Errno) {
	t.Helper()
	before := s.Copy()
	for _, n := range []int{0, 1, -1, math.MinInt, math.MaxInt} {
		if thread, err := s.Pick(n); thread != 0 || err != want {
			t.Fatalf("Pick(%d): %d, %v, not %v", n, thread, err, want)
		}
	}
	if thread, err := s.Next(); thread != 0 || err != want {
		t.Fatalf("Next: %d, %v, not %v", thread, err, want)
	}
	for thread := range s.Threads() {
		expect(t, "Can", s.Can(thread), false)
		expect(t, "Step", s.Step(thread), want)
	}
	expect(t, "the same as before", step.Same(s, before), true)
}

// far are numbers that are none of any things' numbers.
func far() []int {
	return []int{math.MinInt, math.MinInt + 1, math.MinInt32, -1 << 32, -256, -16, -2, -1, 1 << 16, math.MaxInt32, 1 << 32, 1<<32 + 1, math.MaxInt - 1, math.MaxInt}
}

// threads is a program of threads with these codes, two scalar globals, an array of three cells, and two locks.
func threads(regs int, codes ...[]api.Ins) api.Prog {
	p := api.Prog{Mems: []api.Mem{{Name: "x", Size: 1, First: 7}, {Name: "a", Size: 3, First: -2}, {Name: "y", Size: 1}}, Locks: []string{"k", "l"}}
	for i, l := range codes {
		p.Funs = append(p.Funs, api.Fun{Name: "t" + strconv.Itoa(i), Thread: true, Regs: regs, Code: l})
	}
	return p
}

// P9.1 to P9.3: the chapter's examples.
func TestExamples(t *testing.T) {
	s := begun(t, made(t, "global x = 1; thread t { x = x + 2; print x; } thread u { x = 5; }"))
	expect(t, "Races at first", s.Races(), nil)
	steps(t, s, 1)
	expect(t, "Races behind a step of u", s.Races(), [][2]int{{0, 1}})

	s = begun(t, made(t, "lock l; thread t { with l { with l { } } }"))
	expect(t, "Ending at first", s.Ending(), api.Running)
	steps(t, s, 0)
	expect(t, "Ending behind one step", s.Ending(), api.Stuck)
	refused(t, s, api.ErrState)

	s = begun(t, made(t, "thread t { print 1 / 0; }"))
	for s.Ending() == api.Running {
		steps(t, s, 0)
	}
	expect(t, "Ending of 1 / 0", s.Ending(), api.Trapped)
	expect(t, "Out of 1 / 0", s.Out(), nil)
	stands(t, s, 0, 0, 2)
}

// P9.1, P9.3: the state in which a program begins: each Fun that is a Thread, and no other one, at its first instruction.
func TestBegin(t *testing.T) {
	p := made(t, "func f(p) { print p; } thread t { print 1; } func g() { } global x = -9; thread u { with l { } } array a[4]; lock k; lock l; thread v { }")
	s := begun(t, p)
	judged(p).agree(t, s)
	expect(t, "Threads", s.Threads(), 3)
	stands(t, s, 0, 1, 0)
	stands(t, s, 1, 3, 0)
	stands(t, s, 2, 4, 0)
	expect(t, "Cells", s.Cells(), [][]int64{{-9}, {0, 0, 0, 0}})
	expect(t, "Out", s.Out(), nil)
	expect(t, "Ending", s.Ending(), api.Running)
	for thread := range 3 {
		expect(t, "Can", s.Can(thread), true)
	}
	held(t, s, 0, 0, false)
	held(t, s, 1, 0, false)
}

// P9.1, P9.4: a program of no thread is Done at first, whatever else there is.
func TestNoThread(t *testing.T) {
	for _, text := range []string{"", "global x = 3; array a[2]; lock l; func f() { print 1; }"} {
		p := made(t, text)
		s := begun(t, p)
		judged(p).agree(t, s)
		expect(t, "Threads", s.Threads(), 0)
		expect(t, "Ending", s.Ending(), api.Done)
		refused(t, s, api.ErrState)
		for _, thread := range append(far(), 0, 1) {
			expect(t, "Step", s.Step(thread), api.ErrArg)
			gone(t, s, thread)
		}
	}
}

// P9.1: programs that may not be.
func TestForm(t *testing.T) {
	good := func() api.Prog { return threads(2, []api.Ins{constant(0, 1), call(1, 1), back(1)}) }
	f := api.Fun{Name: "f", Regs: 1, Code: []api.Ins{back(0)}}
	for _, x := range []struct {
		what string
		do   func(p *api.Prog)
		want api.Errno
	}{
		{"as it is", func(p *api.Prog) {}, api.OK},
		{"an instruction that is none", func(p *api.Prog) { p.Funs[0].Code[0].Op = 0 }, api.ErrForm},
		{"one behind the last one", func(p *api.Prog) { p.Funs[0].Code[0].Op = api.OReturn + 1 }, api.ErrForm},
		{"a register that is none", func(p *api.Prog) { p.Funs[0].Code[0].R = 2 }, api.ErrForm},
		{"one below 0", func(p *api.Prog) { p.Funs[0].Code[2].A = -1 }, api.ErrForm},
		{"an Arg more", func(p *api.Prog) { p.Funs[0].Code[1].Args = []int{0} }, api.ErrForm},
		{"a call of a Thread", func(p *api.Prog) { p.Funs[0].Code[1].N = 0 }, api.ErrForm},
		{"a global that is none", func(p *api.Prog) { p.Funs[0].Code[0] = load(0, 3, -1) }, api.ErrForm},
		{"a lock that is none", func(p *api.Prog) { p.Funs[0].Code[0] = acquire(2) }, api.ErrForm},
		{"a jump to behind the end", func(p *api.Prog) { p.Funs[0].Code[0] = jump(3) }, api.ErrForm},
		{"a Kind of no operation", func(p *api.Prog) { p.Funs[0].Code[0] = unary(0, api.Add, 0) }, api.ErrForm},
		{"no instructions", func(p *api.Prog) { p.Funs[1].Code = nil }, api.ErrForm},
		{"nothing at the end", func(p *api.Prog) { p.Funs[0].Code = p.Funs[0].Code[:2] }, api.ErrForm},
		{"Regs below 0", func(p *api.Prog) { p.Funs[1].Regs = -1 }, api.ErrForm},
		{"a Thread with Params", func(p *api.Prog) { p.Funs[0].Params = 1 }, api.ErrForm},
		{"a Size of 0", func(p *api.Prog) { p.Mems[1].Size = 0 }, api.ErrForm},
		{"a Size that is too great", func(p *api.Prog) { p.Mems[1].Size = api.MaxSize + 1 }, api.ErrForm},
		{"a name that is none", func(p *api.Prog) { p.Locks[0] = "if" }, api.ErrForm},
		{"two names alike", func(p *api.Prog) { p.Locks[0] = "x" }, api.ErrForm},
	} {
		p := good()
		p.Funs = append(p.Funs, f)
		p.Funs[1].Code = slices.Clone(f.Code)
		x.do(&p)
		s, err := step.New(p)
		expect(t, x.what, err, x.want)
		expect(t, x.what+": a state", s != nil, x.want == api.OK)
	}
	many := threads(1, slices.Repeat([][]api.Ins{{back(0)}}, api.MaxThreads)...)
	expect(t, "as many threads as there may be", begun(t, many).Threads(), api.MaxThreads)
	many.Funs = append(many.Funs, api.Fun{Name: "more", Thread: true, Regs: 1, Code: []api.Ins{back(0)}})
	if s, err := step.New(many); s != nil || err != api.ErrForm {
		t.Error("a thread more:", s, err)
	}
}

// P9.1: numbers of threads that are none, told ahead of whether one can go on, in every ending.
func TestNoSuchThread(t *testing.T) {
	trap := []api.Ins{binary(0, api.Div, 0, 0), back(0)}
	end := []api.Ins{back(0)}
	wait := []api.Ins{acquire(0), acquire(0), back(0)}
	for _, x := range []struct {
		p    api.Prog
		row  []int
		want uint8
	}{
		{threads(1, end, end), nil, api.Running},
		{threads(1, end, end), []int{1}, api.Running},
		{threads(1, end, end), []int{1, 0}, api.Done},
		{threads(1, end, trap), []int{1}, api.Trapped},
		{threads(1, wait, end), []int{0, 1}, api.Stuck},
	} {
		s := begun(t, x.p)
		steps(t, s, x.row...)
		expect(t, "Ending", s.Ending(), x.want)
		before := s.Copy()
		for _, thread := range append(far(), 2, 3, api.MaxThreads) {
			expect(t, "Step of "+strconv.Itoa(thread), s.Step(thread), api.ErrArg)
			gone(t, s, thread)
			if cell, has := s.Cell(thread); has || cell != (api.Access{}) {
				t.Fatal("Cell:", cell, has)
			}
		}
		expect(t, "the same as before", step.Same(s, before), true)
		if x.want != api.Running {
			refused(t, s, api.ErrState)
		}
	}
}

// P9.3: locks that are not there.
func TestNoSuchLock(t *testing.T) {
	s := begun(t, threads(1, []api.Ins{acquire(0), acquire(1), back(0)}))
	for range 3 {
		for _, lock := range append(far(), 2, 3, api.MaxDecls, api.MaxDecls+1) {
			held(t, s, lock, 0, false)
		}
		steps(t, s, 0)
	}
}

// P9.1 to P9.3: a nil state, in each call, whatever stands beside it; one that was made otherwise does not panic.
func TestNil(t *testing.T) {
	var none *step.State
	for _, n := range append(far(), 0, 1) {
		expect(t, "Step", none.Step(n), api.ErrNil)
		thread, err := none.Pick(n)
		expect(t, "Pick", []int{thread, int(err)}, []int{0, int(api.ErrNil)})
		gone(t, none, n)
		cell, has := none.Cell(n)
		expect(t, "Cell", []any{cell, has}, []any{api.Access{}, false})
		held(t, none, n, 0, false)

		other := new(step.State)
		other.Step(n)
		other.Pick(n)
		other.Can(n)
		other.At(n)
		other.Cell(n)
		other.Holder(n)
	}
	thread, err := none.Next()
	expect(t, "Next", []int{thread, int(err)}, []int{0, int(api.ErrNil)})
	expect(t, "the others", []any{none.Threads(), none.Races(), none.Cells(), none.Out(), none.Ending(), none.Copy() == nil},
		[]any{0, [][2]int{}, [][]int64{}, []int64{}, api.Running, true})
	expect(t, "two of nil", step.Same(nil, nil) && step.Same(none, none.Copy()), true)

	other := new(step.State)
	other.Next()
	other.Threads()
	other.Races()
	other.Cells()
	other.Out()
	other.Ending()
	step.Same(other, other.Copy())
	for _, s := range []*step.State{begun(t, api.Prog{}), begun(t, threads(1, []api.Ins{back(0)})), other} {
		expect(t, "one of nil", step.Same(s, nil) || step.Same(nil, s), false)
	}
}

// P9.2: picks, at the edges of what there may be, by how many can go on.
func TestPicks(t *testing.T) {
	m := &maker{seed: 2}
	for count := 1; count <= api.MaxThreads; count++ {
		base := begun(t, threads(1, slices.Repeat([][]api.Ins{{constant(0, 1), back(0)}}, count)...))
		// Some are gone: who is left is counted from 0 on, in their row.
		var left []int
		for thread := range count {
			if thread%3 == 1 && count > 2 {
				steps(t, base, thread, thread)
				continue
			}
			left = append(left, thread)
		}
		able := len(left)
		for n, want := range map[int]int{0: 0, able - 1: able - 1, able: 0, able + 1: 1 % able, 2*able - 1: able - 1, 2 * able: 0} {
			picked(t, base, n, left[want])
		}
		for _, n := range append(far(), int(m.bits()), int(m.bits()), int(m.bits())) {
			picked(t, base, n, left[uint64(n)%uint64(able)])
		}
	}
	// 2^64 - 1 is 3 times 5 times 17 and more; 2^63 leaves 2 by 3, 3 by 5.
	three := begun(t, threads(1, slices.Repeat([][]api.Ins{{back(0)}}, 3)...))
	five := begun(t, threads(1, slices.Repeat([][]api.Ins{{back(0)}}, 5)...))
	picked(t, three, -1, 0)
	picked(t, five, -1, 0)
	picked(t, five, -2, 4)
	picked(t, three, math.MinInt, 2)
	picked(t, five, math.MinInt, 3)
	picked(t, three, math.MaxInt, 1)
	picked(t, five, math.MaxInt, 2)
}

// picked asks whom a pick chooses, and holds what comes of it against that one's step; the state stays as it is.
func picked(t *testing.T, base *step.State, n, want int) {
	t.Helper()
	s, other := base.Copy(), base.Copy()
	thread, err := s.Pick(n)
	if thread != want || err != api.OK {
		t.Fatalf("Pick(%d): %d, %v, not %d", n, thread, err, want)
	}
	steps(t, other, want)
	expect(t, "the same as a step of that one", step.Same(s, other) && !step.Same(s, base), true)
}

// nexts asks by turns who is next.
func nexts(t *testing.T, s *step.State, want ...int) {
	t.Helper()
	for i, thread := range want {
		other := s.Copy()
		if got, err := s.Next(); got != thread || err != api.OK {
			t.Fatalf("the turn %d of %v: %d, %v", i, want, got, err)
		}
		steps(t, other, thread)
		expect(t, "the same as a step of that one", step.Same(s, other), true)
	}
}

// P9.2: by turns: the first one is from 0 on, behind the last one comes the first one, whoever went last by whatever call; who can't is left out.
func TestTurns(t *testing.T) {
	two := []api.Ins{constant(0, 1), back(0)}
	p := threads(1, two, two, two)
	nexts(t, begun(t, p), 0, 1, 2, 0, 1, 2)
	for last, want := range [][]int{{1, 2, 0, 1, 2}, {2, 0, 1, 2, 0}, {0, 1, 2, 0, 1}} {
		s := begun(t, p)
		steps(t, s, last)
		nexts(t, s.Copy(), want...)
		nexts(t, s, want...)
		s = begun(t, p)
		if thread, err := s.Pick(last + 9); thread != last || err != api.OK {
			t.Fatal("Pick:", thread, err)
		}
		nexts(t, s, want...)
	}
	s := begun(t, p)
	steps(t, s, 1, 1) // it is through
	nexts(t, s, 2, 0, 2, 0)
	expect(t, "Ending", s.Ending(), api.Done)

	lock := []api.Ins{acquire(0), constant(0, 1), release(0), back(0)}
	s = begun(t, threads(1, lock, lock, two))
	nexts(t, s, 0, 2, 0, 2, 0, 1, 0, 1, 1, 1)
	expect(t, "Ending", s.Ending(), api.Done)
	s = begun(t, threads(1, lock, lock, two))
	steps(t, s, 1)
	nexts(t, s, 2, 1, 2, 1, 0, 1, 0, 0, 0)
	// The first one can't go on at the first turn: nobody can have taken its lock, so it is gone.
	s = begun(t, threads(1, []api.Ins{back(0)}, two))
	steps(t, s, 0)
	nexts(t, s, 1, 1)
	// A step that is refused is none.
	s = begun(t, p)
	steps(t, s, 0)
	expect(t, "Step", s.Step(3), api.ErrArg)
	nexts(t, s, 1)
}

// P9.1: a thread waits while a lock is held, also by itself, and goes on once it is given; another lock is another one.
func TestWaits(t *testing.T) {
	l := []api.Ins{acquire(0), release(0), acquire(1), release(1), back(0)}
	s := begun(t, threads(1, l, l, []api.Ins{acquire(1), constant(0, 1), release(1), back(0)}))
	steps(t, s, 0)
	held(t, s, 0, 0, true)
	expect(t, "Can", []bool{s.Can(0), s.Can(1), s.Can(2)}, []bool{true, false, true})
	before := s.Copy()
	expect(t, "Step of one that waits", s.Step(1), api.ErrState)
	expect(t, "the same as before", step.Same(s, before), true)
	steps(t, s, 2, 0)
	held(t, s, 0, 0, false)
	held(t, s, 1, 2, true)
	expect(t, "Can", []bool{s.Can(0), s.Can(1), s.Can(2)}, []bool{false, true, true})
	steps(t, s, 1, 1)
	expect(t, "Can", []bool{s.Can(0), s.Can(1), s.Can(2)}, []bool{false, false, true})
	stands(t, s, 0, 0, 2)
	expect(t, "Step of one that waits", s.Step(0), api.ErrState)
	steps(t, s, 2, 2)
	expect(t, "Can", []bool{s.Can(0), s.Can(1), s.Can(2)}, []bool{true, true, true})
	steps(t, s, 2)
	gone(t, s, 2)
	expect(t, "Step of one that is gone", s.Step(2), api.ErrState)
	steps(t, s, 1)
	held(t, s, 1, 1, true)
	steps(t, s, 1, 1, 0, 0)
	expect(t, "Ending", s.Ending(), api.Running)
	steps(t, s, 0)
	expect(t, "Ending", s.Ending(), api.Done)
}

// P9.4: Stuck: two threads that take two locks in unlike rows; one that waits for what a thread kept that is gone.
func TestStuck(t *testing.T) {
	p := threads(1, []api.Ins{acquire(0), acquire(1), back(0)}, []api.Ins{acquire(1), acquire(0), back(0)})
	s := begun(t, p)
	steps(t, s, 0, 1)
	expect(t, "Ending", s.Ending(), api.Stuck)
	stands(t, s, 0, 0, 1)
	stands(t, s, 1, 1, 1)
	refused(t, s, api.ErrState)

	s = begun(t, threads(1, []api.Ins{acquire(0), back(0)}, []api.Ins{acquire(0), back(0)}))
	steps(t, s, 1, 1)
	gone(t, s, 1)
	held(t, s, 0, 1, true)
	expect(t, "Ending", s.Ending(), api.Stuck)
	stands(t, s, 0, 0, 0)
	refused(t, s, api.ErrState)

	// While another one can go on, it is Running.
	s = begun(t, threads(1, []api.Ins{acquire(0), acquire(0), back(0)}, []api.Ins{constant(0, 1), back(0)}))
	steps(t, s, 0)
	expect(t, "Ending", s.Ending(), api.Running)
	steps(t, s, 1)
	expect(t, "Ending", s.Ending(), api.Running)
	steps(t, s, 1)
	expect(t, "Ending", s.Ending(), api.Stuck)
	// A lock that nobody waits for may be kept.
	s = begun(t, threads(1, []api.Ins{acquire(0), back(0)}))
	steps(t, s, 0, 0)
	expect(t, "Ending", s.Ending(), api.Done)
	held(t, s, 0, 0, true)
}

// P9.3: pairs that race: one cell, one of them writes, both can go on; the lesser number first, in order.
func TestRaces(t *testing.T) {
	at := func(first int64, i api.Ins) []api.Ins { return []api.Ins{constant(0, first), i, back(0)} }
	for _, x := range []struct {
		what string
		l    []api.Ins
		want [][2]int
	}{
		{"none", nil, nil},
		{"one alone", []api.Ins{store(0, -1, 1)}, nil},
		{"two that read", []api.Ins{load(1, 0, -1), load(1, 0, -1)}, nil},
		{"one that reads, one that writes", []api.Ins{load(1, 0, -1), store(0, -1, 1)}, [][2]int{{0, 1}}},
		{"one that writes, one that reads", []api.Ins{store(0, -1, 1), load(1, 0, -1)}, [][2]int{{0, 1}}},
		{"two that write", []api.Ins{store(0, -1, 1), store(0, -1, 1)}, [][2]int{{0, 1}}},
		{"two globals", []api.Ins{store(0, -1, 1), store(2, -1, 1)}, nil},
		{"one place, two globals", []api.Ins{store(0, -1, 1), store(1, 1, 1)}, nil},
		{"the place 0, with a register and without", []api.Ins{store(1, -1, 1), load(1, 1, 1)}, [][2]int{{0, 1}}},
		{"two places", []api.Ins{store(1, 0, 1), store(1, 1, 1)}, nil},
		{"one place", []api.Ins{store(1, 0, 1), store(1, 0, 1)}, [][2]int{{0, 1}}},
		{"no such place", []api.Ins{store(0, 0, 1), store(0, 0, 1)}, nil},
		{"another instruction", []api.Ins{store(0, -1, 1), show(0), move(1, 0)}, nil},
		{"many", []api.Ins{store(0, -1, 1), load(1, 0, -1), show(1), store(1, 0, 1), load(1, 0, -1), store(0, -1, 0), load(0, 1, 0), load(1, 1, 1)},
			[][2]int{{0, 1}, {0, 4}, {0, 5}, {1, 5}, {3, 6}, {4, 5}}},
	} {
		var codes [][]api.Ins
		for _, i := range x.l {
			codes = append(codes, at(2, i))
		}
		s := begun(t, threads(2, codes...))
		expect(t, x.what+", at first", s.Races(), nil)
		for thread := range x.l {
			steps(t, s, thread)
		}
		expect(t, x.what, s.Races(), x.want)
	}
	// As many as there may be, each with each.
	s := begun(t, threads(1, slices.Repeat([][]api.Ins{{store(0, -1, 0), back(0)}}, api.MaxThreads)...))
	var all [][2]int
	for a := range api.MaxThreads {
		for b := a + 1; b < api.MaxThreads; b++ {
			all = append(all, [2]int{a, b})
		}
	}
	expect(t, "all", s.Races(), all)
	steps(t, s, 0)
	expect(t, "but one", s.Races(), all[api.MaxThreads-1:])
}

// P9.3: none has a cell, and none race, once the run has ended, though they stand there.
func TestNoRaceAtTheEnd(t *testing.T) {
	write := []api.Ins{store(0, -1, 0), back(0)}
	s := begun(t, threads(1, write, write, []api.Ins{release(0), back(0)}))
	expect(t, "Races", s.Races(), [][2]int{{0, 1}})
	cell, has := s.Cell(1)
	expect(t, "Cell", []any{cell, has}, []any{api.Access{Mem: 0, Place: 0, Write: true}, true})
	steps(t, s, 2)
	expect(t, "Ending", s.Ending(), api.Trapped)
	expect(t, "Races", s.Races(), nil)
	cell, has = s.Cell(1)
	expect(t, "Cell", []any{cell, has}, []any{api.Access{}, false})
	stands(t, s, 1, 1, 0)
	refused(t, s, api.ErrState)
}

// P9.3: what was printed, in its row, by whomever.
func TestOut(t *testing.T) {
	l := func(n int64) []api.Ins { return []api.Ins{constant(0, n), show(0), show(1), show(0), back(0)} }
	s := begun(t, threads(2, l(math.MinInt64), l(math.MaxInt64), l(5)))
	steps(t, s, 0, 1, 2, 2, 0, 1, 1, 0, 2, 1, 0, 0, 1)
	expect(t, "Out", s.Out(), []int64{5, math.MinInt64, math.MaxInt64, 0, 0, 0, math.MaxInt64, math.MinInt64})
	steps(t, s, 2, 2)
	expect(t, "Out", s.Out(), []int64{5, math.MinInt64, math.MaxInt64, 0, 0, 0, math.MaxInt64, math.MinInt64, 5})
	expect(t, "Ending", s.Ending(), api.Done)
}

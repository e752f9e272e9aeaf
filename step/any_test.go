package step_test

import (
	"slices"
	"testing"

	"bobbin/api"
	"bobbin/step"
)

// programs are many that were made: of instructions that jump wherever they like, and of texts.
func programs(t *testing.T, seed uint64, count int) []api.Prog {
	t.Helper()
	m := &maker{seed: seed}
	var out []api.Prog
	for range count {
		out = append(out, m.program(t), made(t, m.text(1+m.next(4))))
	}
	return out
}

// forward does a step of a state by one of the three ways, and of what it has to be: of one that can go on, where it is Running.
func forward(t *testing.T, m *maker, s *step.State, j *judge) {
	t.Helper()
	if j.ending() != api.Running {
		refused(t, s, api.ErrState)
		return
	}
	want, got := 0, 0
	var err api.Errno
	switch m.next(3) {
	case 0:
		n := int(m.bits())
		want = j.pick(n)
		got, err = s.Pick(n)
	case 1:
		want = j.turn()
		got, err = s.Next()
	case 2:
		want = pick(m, j.able()...)
		got, err = want, s.Step(want)
	}
	if got != want || err != api.OK {
		t.Fatalf("a step of %d, %v, not of %d", got, err, want)
	}
	j.step(want)
	j.agree(t, s)
}

// P9.1 to P9.4, P9.6: whatever programs, whoever goes on: all that can be asked, behind each step.
func TestAnyRun(t *testing.T) {
	m := &maker{seed: 1}
	ended, raced := map[uint8]int{}, 0
	for _, p := range programs(t, 11, 1200) {
		s, j := begun(t, p), judged(p)
		j.agree(t, s)
		for range 70 {
			if j.ending() != api.Running {
				break
			}
			forward(t, m, s, j)
			raced += len(j.races())
		}
		ended[s.Ending()]++
		if s.Ending() != api.Running {
			refused(t, s, api.ErrState)
		}
	}
	for _, ending := range []uint8{api.Running, api.Done, api.Trapped, api.Stuck} {
		if ended[ending] < 50 {
			t.Errorf("only %d runs end by %d", ended[ending], ending)
		}
	}
	if raced < 500 {
		t.Error("only so many races:", raced)
	}
}

// P9.4: as long as it is Running some thread can go on; behind another ending none can.
func TestEnds(t *testing.T) {
	m := &maker{seed: 4}
	for _, p := range programs(t, 14, 500) {
		s := begun(t, p)
		for range 60 {
			can := 0
			for thread := range s.Threads() {
				if s.Can(thread) {
					can++
				}
			}
			if (s.Ending() == api.Running) != (can > 0) {
				t.Fatalf("Ending %d, where %d can go on, of %+v", s.Ending(), can, p)
			}
			before := s.Copy()
			if _, err := s.Pick(int(m.bits())); (err == api.OK) != (can > 0) || can == 0 && !step.Same(s, before) {
				t.Fatalf("Pick: %v, where %d can go on, of %+v", err, can, p)
			}
		}
	}
}

// marked says whether an instruction is of a lock, prints, or may trap.
func marked(i api.Ins) bool {
	switch i.Op {
	case api.OAcquire, api.ORelease, api.OPrint:
		return true
	case api.OLoad, api.OStore:
		return i.A != -1
	case api.OBinary:
		return uint8(i.N) == api.Div || uint8(i.N) == api.Mod
	}
	return false
}

// alikeButLast says whether two states are the same, but for who went last: behind a step of one that can go on, that one did.
func alikeButLast(t *testing.T, a, b *step.State) bool {
	t.Helper()
	a, b = a.Copy(), b.Copy()
	for thread := range a.Threads() {
		if a.Can(thread) && b.Can(thread) {
			steps(t, a, thread)
			steps(t, b, thread)
			return step.Same(a, b)
		}
	}
	// None can go on: what can be asked is all that is left, but for registers.
	expect(t, "what is left", left(b), left(a))
	return true
}

// left is what can be asked of a state.
func left(s *step.State) []any {
	out := []any{s.Ending(), s.Out(), s.Cells()}
	for thread := range s.Threads() {
		fun, at, is := s.At(thread)
		out = append(out, fun, at, is)
	}
	for lock := range api.MaxDecls {
		who, held := s.Holder(lock)
		out = append(out, who, held)
	}
	return out
}

// P9.5: two threads that can go on, do not race, of whose next instructions at most one is of a lock, prints, or may trap: whichever goes first.
func TestApartSteps(t *testing.T) {
	m := &maker{seed: 5}
	held, unheld := 0, 0
	for _, p := range programs(t, 15, 600) {
		s, j := begun(t, p), judged(p)
		for range 50 {
			for _, a := range j.able() {
				for _, b := range j.able() {
					if a >= b || slices.Contains(s.Races(), [2]int{a, b}) || marked(j.ins(a)) && marked(j.ins(b)) {
						continue
					}
					first, second := s.Copy(), s.Copy()
					steps(t, first, a)
					steps(t, second, b)
					if first.Ending() == api.Trapped || second.Ending() == api.Trapped {
						unheld++ // the other one can't go on then
						continue
					}
					steps(t, first, b)
					steps(t, second, a)
					held++
					if !alikeButLast(t, first, second) {
						t.Fatalf("%d and %d: it is not the same whichever goes first: %+v", a, b, p)
					}
				}
			}
			if j.ending() != api.Running {
				break
			}
			forward(t, m, s, j)
		}
	}
	if held < 10000 || unheld < 50 {
		t.Error("only so many times:", held, unheld)
	}
}

// P9.6: a lock is held by whoever took it last, and gave it not; nobody takes what is held.
func TestHeld(t *testing.T) {
	m := &maker{seed: 6}
	taken, given := 0, 0
	for _, p := range programs(t, 16, 2000) {
		s := begun(t, p)
		holds := map[int]int{} // who took what last, and gave it not
		for s.Ending() == api.Running && m.next(80) > 0 {
			thread, lock, op := chosen(t, m, p, s)
			who, is := holds[lock]
			switch {
			case op == api.OAcquire:
				if is {
					t.Fatalf("%d takes %d, which %d holds", thread, lock, who)
				}
				holds[lock] = thread
				taken++
			case op == api.ORelease && s.Ending() != api.Trapped:
				if !is || who != thread {
					t.Fatalf("%d gives %d, which %d holds, or nobody: %v", thread, lock, who, is)
				}
				delete(holds, lock)
				given++
			}
			for lock := range p.Locks {
				who, is := s.Holder(lock)
				if want, has := holds[lock]; who != want || is != has {
					t.Fatalf("Holder(%d): %d, %v, not %d, %v", lock, who, is, want, has)
				}
			}
		}
	}
	if taken < 1000 || given < 300 {
		t.Error("only so many were taken, and given:", taken, given)
	}
}

// chosen does a step by a pick: whose it was, of which lock, by which operation.
func chosen(t *testing.T, m *maker, p api.Prog, s *step.State) (thread, lock int, op uint8) {
	t.Helper()
	ahead := s.Copy()
	thread, err := s.Pick(int(m.bits()))
	expect(t, "Pick", err, api.OK)
	fun, at, _ := ahead.At(thread)
	i := p.Funs[fun].Code[at]
	return thread, int(i.N), i.Op
}

// P9.7: states and their copies go their own ways, in both directions, and done to both the same comes of both.
func TestCopies(t *testing.T) {
	m := &maker{seed: 7}
	same := map[bool]int{}
	for _, p := range programs(t, 17, 300) {
		states, judges := []*step.State{begun(t, p)}, []*judge{judged(p)}
		for range 40 {
			at := m.next(len(states))
			if len(states) < 5 && m.next(4) == 0 {
				states, judges = append(states, states[at].Copy()), append(judges, judges[at].copied())
			}
			forward(t, m, states[at], judges[at])
			for i := range states {
				judges[i].agree(t, states[i])
			}
		}
		for i := range states {
			for k := range states {
				want := judges[i].same(judges[k])
				same[want]++
				if step.Same(states[i], states[k]) != want {
					t.Fatalf("Same: not %v, of %+v", want, p)
				}
			}
			together(t, m, states[i], judges[i])
		}
	}
	if same[true] < 2000 || same[false] < 2000 {
		t.Error("the same, and not:", same)
	}
}

// together does the same steps to a state and a copy of it.
func together(t *testing.T, m *maker, s *step.State, j *judge) {
	t.Helper()
	c := s.Copy()
	for range 10 {
		if !step.Same(s, c) || !step.Same(c, s) {
			t.Fatal("a copy is not the same")
		}
		if s.Ending() != api.Running {
			return
		}
		n := int(m.bits())
		who, err := s.Pick(n)
		who2, err2 := c.Pick(n)
		if who != who2 || err != err2 {
			t.Fatalf("Pick(%d): %d, %v, but of the copy %d, %v", n, who, err, who2, err2)
		}
		j.step(who)
		j.agree(t, s)
		j.agree(t, c)
	}
}

// P9.8: a pick is the step of one thread that can go on; by as many picks as threads that can go on each one has its turn.
func TestPickEach(t *testing.T) {
	m := &maker{seed: 8}
	for _, p := range programs(t, 18, 300) {
		s, j := begun(t, p), judged(p)
		for range 30 {
			able := j.able()
			if len(able) == 0 {
				break
			}
			begin := pick(m, 0, 1, m.next(1000), -3-len(able))
			var met []int
			for n := begin; n < begin+len(able); n++ {
				c, stepped := s.Copy(), s.Copy()
				thread, err := c.Pick(n)
				expect(t, "Pick", err, api.OK)
				steps(t, stepped, thread)
				expect(t, "the step of that one", step.Same(c, stepped), true)
				met = append(met, thread)
			}
			if begin != 0 {
				slices.Sort(met)
			}
			if begin >= 0 {
				expect(t, "who has a turn", met, able)
			}
			forward(t, m, s, j)
		}
	}
}

// P9.1 to P9.4: all that small programs come to, whatever the picks.
func TestAllRuns(t *testing.T) {
	for _, text := range []string{
		"global x = 1; thread t { x = x + 2; print x; } thread u { x = 5; }",
		"global x = 1; lock l; thread t { with l { x = 2; } } thread u { with l { print x; } }",
		"lock k; lock l; thread t { with k { with l { } } } thread u { with l { with k { } } }",
		"array a[2]; thread t { a[1] = 1; print a[a[1]]; } thread u { a[0] = 2; }",
		"func f(p) { print p; return p + 1; } thread t { var v = call f(1); print v; } thread u { print 1 / 0; }",
		"lock l; func f() { with l { print 3; } } thread t { call f(); } thread u { call f(); }",
	} {
		p := made(t, text)
		met := map[uint8]int{}
		all(t, begun(t, p), judged(p), met)
		if len(met) == 0 {
			t.Error("no run of", text)
		}
	}
}

// all goes on by whoever can, and counts how it ends.
func all(t *testing.T, s *step.State, j *judge, met map[uint8]int) {
	t.Helper()
	j.agree(t, s)
	able := j.able()
	if len(able) == 0 {
		met[s.Ending()]++
		return
	}
	for n := range able {
		c, k := s.Copy(), j.copied()
		thread, err := c.Pick(n)
		expect(t, "Pick", err, api.OK)
		expect(t, "whom it chooses", thread, able[n])
		k.step(thread)
		all(t, c, k, met)
	}
}

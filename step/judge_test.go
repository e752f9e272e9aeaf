package step_test

import (
	"maps"
	"slices"
	"testing"

	"bobbin/api"
	"bobbin/step"
)

// This file says what the chapter says in other words: all that a state has stands in one map of numbers, by what
// each of them is; what is 0 stands in none.

// spot is what a number is: the count of a thread's frames, of such a frame its Fun, its next instruction and its
// registers, a cell, or who holds a lock.
type spot struct {
	what    string
	a, b, c int
}

// judge is a state.
type judge struct {
	p       api.Prog
	threads []int // their Funs
	is      map[spot]int64
	out     []int64
	trapped bool
	last    int // one more than who did a step last
}

// judged is the state in which a program begins.
func judged(p api.Prog) *judge {
	j := &judge{p: p, is: map[spot]int64{}}
	for i, m := range p.Mems {
		for place := range m.Size {
			j.set(spot{"cell", i, place, 0}, m.First)
		}
	}
	for fun, f := range p.Funs {
		if f.Thread {
			j.push(len(j.threads), fun)
			j.threads = append(j.threads, fun)
		}
	}
	return j
}

// copied is a state that goes its own way.
func (j *judge) copied() *judge {
	k := *j
	k.is, k.out = maps.Clone(j.is), slices.Clone(j.out)
	return &k
}

// same says whether two states of one program are the same.
func (j *judge) same(k *judge) bool {
	return j.trapped == k.trapped && j.last == k.last && slices.Equal(j.out, k.out) && maps.Equal(j.is, k.is)
}

func (j *judge) set(s spot, v int64) {
	j.is[s] = v
	if v == 0 {
		delete(j.is, s)
	}
}

// high is how many frames a thread has.
func (j *judge) high(thread int) int { return int(j.is[spot{"high", thread, 0, 0}]) }

func (j *judge) push(thread, fun int) {
	d := j.high(thread)
	j.set(spot{"fun", thread, d, 0}, int64(fun))
	j.set(spot{"high", thread, 0, 0}, int64(d)+1)
}

func (j *judge) pop(thread int) {
	d := j.high(thread) - 1
	maps.DeleteFunc(j.is, func(s spot, v int64) bool {
		return s.a == thread && s.b == d && (s.what == "fun" || s.what == "at" || s.what == "reg")
	})
	j.set(spot{"high", thread, 0, 0}, int64(d))
}

// at is what At has to answer.
func (j *judge) at(thread int) (int, int, bool) {
	if thread < 0 || thread >= len(j.threads) || j.high(thread) == 0 {
		return 0, 0, false
	}
	d := j.high(thread) - 1
	return int(j.is[spot{"fun", thread, d, 0}]), int(j.is[spot{"at", thread, d, 0}]), true
}

// ins is the next instruction of a thread that has one.
func (j *judge) ins(thread int) api.Ins {
	fun, at, _ := j.at(thread)
	return j.p.Funs[fun].Code[at]
}

// reg is a register of a thread's last frame.
func (j *judge) reg(thread, r int) int64 {
	return j.is[spot{"reg", thread, j.high(thread) - 1, r}]
}

// holder is what Holder has to answer.
func (j *judge) holder(lock int) (int, bool) {
	if who := j.is[spot{"lock", lock, 0, 0}]; who > 0 {
		return int(who) - 1, true
	}
	return 0, false
}

// can is what Can has to answer.
func (j *judge) can(thread int) bool {
	if _, _, is := j.at(thread); !is || j.trapped {
		return false
	}
	i := j.ins(thread)
	_, held := j.holder(int(i.N))
	return i.Op != api.OAcquire || !held
}

// able are all that can go on.
func (j *judge) able() []int {
	var out []int
	for thread := range j.threads {
		if j.can(thread) {
			out = append(out, thread)
		}
	}
	return out
}

// ending is what Ending has to answer.
func (j *judge) ending() uint8 {
	left := 0
	for thread := range j.threads {
		left += j.high(thread)
	}
	switch {
	case j.trapped:
		return api.Trapped
	case left == 0:
		return api.Done
	case len(j.able()) == 0:
		return api.Stuck
	}
	return api.Running
}

// place is which cell an OLoad or an OStore is of, and whether it is there.
func (j *judge) place(thread int) (spot, bool) {
	i := j.ins(thread)
	if i.A == -1 {
		return spot{"cell", int(i.N), 0, 0}, true
	}
	v := j.reg(thread, i.A)
	return spot{"cell", int(i.N), int(v), 0}, 0 <= v && v < int64(j.p.Mems[i.N].Size)
}

// cell is what Cell has to answer.
func (j *judge) cell(thread int) (api.Access, bool) {
	if !j.can(thread) {
		return api.Access{}, false
	}
	op := j.ins(thread).Op
	if op != api.OLoad && op != api.OStore {
		return api.Access{}, false
	}
	s, is := j.place(thread)
	if !is {
		return api.Access{}, false
	}
	return api.Access{Mem: s.a, Place: s.b, Write: op == api.OStore}, true
}

// races is what Races has to answer.
func (j *judge) races() [][2]int {
	var out [][2]int
	for a := range j.threads {
		for b := range j.threads {
			x, is := j.cell(a)
			y, is2 := j.cell(b)
			read := !x.Write && !y.Write
			x.Write, y.Write = false, false
			if a < b && is && is2 && !read && x == y {
				out = append(out, [2]int{a, b})
			}
		}
	}
	return out
}

// cells is what Cells has to answer.
func (j *judge) cells() [][]int64 {
	var out [][]int64
	for i, m := range j.p.Mems {
		var l []int64
		for place := range m.Size {
			l = append(l, j.is[spot{"cell", i, place, 0}])
		}
		out = append(out, l)
	}
	return out
}

// two is what a Kind makes of two numbers.
func two(kind, a, b int64) (int64, bool) {
	truth := map[bool]int64{true: 1}
	switch uint8(kind) {
	case api.Add:
		return a + b, true
	case api.Sub:
		return a - b, true
	case api.Mul:
		return a * b, true
	case api.Div, api.Mod:
		if b == 0 {
			return 0, false
		}
		if uint8(kind) == api.Div {
			return a / b, true
		}
		return a % b, true
	case api.Less:
		return truth[a < b], true
	case api.LessEq:
		return truth[a <= b], true
	case api.Equal:
		return truth[a == b], true
	case api.Unlike:
		return truth[a != b], true
	case api.And:
		return truth[a != 0 && b != 0], true
	}
	return truth[a != 0 || b != 0], true
}

// step does the step of a thread that can go on.
func (j *judge) step(thread int) {
	i, d := j.ins(thread), j.high(thread)-1
	at := spot{"at", thread, d, 0}
	r, lock := spot{"reg", thread, d, i.R}, spot{"lock", int(i.N), 0, 0}
	reg := func(n int) int64 { return j.reg(thread, n) }
	next := j.is[at] + 1
	j.last = thread + 1
	switch i.Op {
	case api.OConst:
		j.set(r, i.N)
	case api.OMove:
		j.set(r, reg(i.A))
	case api.OUnary:
		if v := reg(i.A); uint8(i.N) == api.Neg {
			j.set(r, -v)
		} else {
			j.set(r, map[bool]int64{true: 1}[v == 0])
		}
	case api.OBinary:
		v, is := two(i.N, reg(i.A), reg(i.B))
		if j.trapped = !is; is {
			j.set(r, v)
		}
	case api.OLoad, api.OStore:
		cell, is := j.place(thread)
		if j.trapped = !is; is && i.Op == api.OLoad {
			j.set(r, j.is[cell])
		} else if is {
			j.set(cell, reg(i.B))
		}
	case api.OAcquire:
		j.set(lock, int64(thread)+1)
	case api.ORelease:
		if who, held := j.holder(int(i.N)); held && who == thread {
			j.set(lock, 0)
		} else {
			j.trapped = true
		}
	case api.OPrint:
		j.out = append(j.out, reg(i.A))
	case api.OCall:
		j.push(thread, int(i.N))
		for k, a := range i.Args {
			j.set(spot{"reg", thread, d + 1, k}, j.is[spot{"reg", thread, d, a}])
		}
		return
	case api.OJump:
		next = i.N
	case api.OBranch:
		if reg(i.A) == 0 {
			next = i.N
		}
	case api.OReturn:
		answer := reg(i.A)
		if j.pop(thread); d > 0 {
			j.set(spot{"reg", thread, d - 1, j.ins(thread).R}, answer)
			j.set(spot{"at", thread, d - 1, 0}, j.is[spot{"at", thread, d - 1, 0}]+1)
		}
		return
	}
	if !j.trapped {
		j.set(at, next)
	}
}

// pick is who is next by a pick.
func (j *judge) pick(n int) int {
	able := j.able()
	left := uint64(n)
	return able[left-left/uint64(len(able))*uint64(len(able))]
}

// turn is who is next by turns.
func (j *judge) turn() int {
	for thread := j.last; ; thread++ {
		if round := thread % len(j.threads); j.can(round) {
			return round
		}
	}
}

// agree holds a state against what it has to be, in all that can be asked of it.
func (j *judge) agree(t *testing.T, s *step.State) {
	t.Helper()
	expect(t, "Threads", s.Threads(), len(j.threads))
	expect(t, "Ending", s.Ending(), j.ending())
	expect(t, "Out", s.Out(), j.out)
	expect(t, "Cells", s.Cells(), j.cells())
	expect(t, "Races", s.Races(), j.races())
	for thread := -1; thread <= len(j.threads); thread++ {
		fun, at, is := s.At(thread)
		fun2, at2, is2 := j.at(thread)
		if fun != fun2 || at != at2 || is != is2 {
			t.Fatalf("At(%d): %d, %d, %v, not %d, %d, %v", thread, fun, at, is, fun2, at2, is2)
		}
		if can := j.can(thread); s.Can(thread) != can {
			t.Fatalf("Can(%d): not %v", thread, can)
		}
		cell, has := s.Cell(thread)
		if cell2, has2 := j.cell(thread); cell != cell2 || has != has2 {
			t.Fatalf("Cell(%d): %v, %v, not %v, %v", thread, cell, has, cell2, has2)
		}
	}
	for lock := -1; lock <= len(j.p.Locks); lock++ {
		who, held := s.Holder(lock)
		if who2, held2 := j.holder(lock); who != who2 || held != held2 {
			t.Fatalf("Holder(%d): %d, %v, not %d, %v", lock, who, held, who2, held2)
		}
	}
}

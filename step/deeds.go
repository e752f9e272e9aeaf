package step

import (
	"bobbin/api"
	"bobbin/mem"
)

// turn is a thread's step: who does it, in which frame, by which instruction.
type turn struct {
	s      *State
	thread int
	frame  *frame
	ins    api.Ins
}

// turnOf is the step of a thread that has frames.
func (s *State) turnOf(thread int) turn {
	frames := s.threads[thread]
	f := &frames[len(frames)-1]
	return turn{s: s, thread: thread, frame: f, ins: s.funs[f.fun].Code[f.at]}
}

// deedOf is what an operation does: no is Trapped, and nothing was done then.
func deedOf(op uint8) func(*turn) bool {
	return [...]func(*turn) bool{
		api.OConst:   (*turn).constant,
		api.OMove:    (*turn).move,
		api.OUnary:   (*turn).unary,
		api.OBinary:  (*turn).binary,
		api.OLoad:    (*turn).load,
		api.OStore:   (*turn).store,
		api.OAcquire: (*turn).acquire,
		api.ORelease: (*turn).release,
		api.OPrint:   (*turn).print,
		api.OCall:    (*turn).call,
		api.OJump:    (*turn).jump,
		api.OBranch:  (*turn).branch,
		api.OReturn:  (*turn).leave,
	}[op]
}

func (t *turn) constant() bool { return t.becomes(t.ins.N, true) }

func (t *turn) move() bool { return t.becomes(t.a(), true) }

func (t *turn) unary() bool { return t.becomes(mem.Unary(uint8(t.ins.N), t.a())) }

func (t *turn) binary() bool { return t.becomes(mem.Binary(uint8(t.ins.N), t.a(), t.b())) }

func (t *turn) load() bool {
	v, err := t.s.memory.Get(int(t.ins.N), t.place())
	return t.becomes(v, err == api.OK)
}

func (t *turn) store() bool { return t.on(t.s.memory.Set(int(t.ins.N), t.place(), t.b())) }

func (t *turn) acquire() bool { return t.on(t.s.memory.Take(int(t.ins.N), t.thread)) }

func (t *turn) release() bool { return t.on(t.s.memory.Give(int(t.ins.N), t.thread)) }

func (t *turn) print() bool {
	t.s.out = append(t.s.out, t.a())
	return t.on(api.OK)
}

// call leaves the frame at its OCall: what that is answered is to become its R.
func (t *turn) call() bool {
	callee := t.s.begin(int(t.ins.N))
	for i, r := range t.ins.Args {
		callee.regs[i] = t.frame.regs[r]
	}
	t.s.threads[t.thread] = append(t.s.threads[t.thread], callee)
	return true
}

func (t *turn) jump() bool { return t.to(int(t.ins.N)) }

func (t *turn) branch() bool {
	if t.a() != 0 {
		return t.on(api.OK)
	}
	return t.to(int(t.ins.N))
}

func (t *turn) leave() bool {
	answer := t.a()
	frames := t.s.threads[t.thread]
	below := len(frames) - 1
	frames[below] = frame{} // what is gone is not kept behind the end
	t.s.threads[t.thread] = frames[:below]
	if below == 0 {
		return true
	}
	caller := t.s.turnOf(t.thread)
	return caller.becomes(answer, true)
}

// a is the register A.
func (t *turn) a() int64 { return t.frame.regs[t.ins.A] }

// b is the register B.
func (t *turn) b() int64 { return t.frame.regs[t.ins.B] }

// place is the place of a cell: an A of -1 is no register.
func (t *turn) place() int {
	if t.ins.A == noPlace {
		return 0
	}
	return int(t.a())
}

// noPlace is the A of an OLoad, or an OStore, of the place 0.
const noPlace = -1

// becomes lets R become something, if there is something, and goes on.
func (t *turn) becomes(v int64, is bool) bool {
	if is {
		t.frame.regs[t.ins.R] = v
		t.frame.at++
	}
	return is
}

// on goes on to the next instruction, if nothing was wrong.
func (t *turn) on(err api.Errno) bool { return err == api.OK && t.to(t.frame.at+1) }

// to goes on at an instruction.
func (t *turn) to(at int) bool {
	t.frame.at = at
	return true
}

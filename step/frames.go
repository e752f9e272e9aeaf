package step

import (
	"slices"

	"bobbin/api"
	"bobbin/mem"
)

// frame is a call that was not answered yet.
type frame struct {
	fun, at int // the next instruction; of one that has called another one it is the OCall
	regs    []int64
}

// begin is the first frame of a Fun, all registers 0.
func (s *State) begin(fun int) frame {
	return frame{fun: fun, regs: make([]int64, s.funs[fun].Regs)}
}

// Copy goes its own way.
func (s *State) Copy() *State {
	if s == nil {
		return nil
	}
	c := *s
	c.memory = s.memory.Copy()
	c.out = slices.Clone(s.out)
	c.threads = make([][]frame, len(s.threads))
	for thread, l := range s.threads {
		c.threads[thread] = copiedFrames(l)
	}
	return &c
}

// copiedFrames are frames with registers of their own.
func copiedFrames(l []frame) []frame {
	out := make([]frame, len(l))
	copy(out, l)
	for i, f := range l {
		out[i].regs = make([]int64, len(f.regs))
		copy(out[i].regs, f.regs)
	}
	return out
}

// copiedFuns are Funs that share nothing with those that they are made of.
func copiedFuns(l []api.Fun) []api.Fun {
	out := slices.Clone(l)
	for fun := range out {
		f := &out[fun]
		f.Code = slices.Clone(f.Code)
		for at := range f.Code {
			f.Code[at].Args = slices.Clone(f.Code[at].Args)
		}
	}
	return out
}

// Same says whether two states are the same.
func Same(a, b *State) bool {
	if a == nil || b == nil {
		return a == b
	}
	return a.ending == b.ending && a.last == b.last && slices.Equal(a.out, b.out) &&
		mem.Same(a.memory, b.memory) && slices.EqualFunc(a.threads, b.threads, sameFrames)
}

// sameFrames says whether two threads have the same frames.
func sameFrames(a, b []frame) bool { return slices.EqualFunc(a, b, sameFrame) }

// sameFrame says whether two frames are the same.
func sameFrame(a, b frame) bool {
	return a.fun == b.fun && a.at == b.at && slices.Equal(a.regs, b.regs)
}

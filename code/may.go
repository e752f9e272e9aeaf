package code

import (
	"iter"

	"bobbin/api"
	"bobbin/tree"
)

// mayNames says whether the names of a program may be, also beside one another.
func mayNames(p api.Prog) bool {
	if len(p.Mems)+len(p.Locks)+len(p.Funs) > api.MaxDecls {
		return false
	}
	met := map[string]struct{}{}
	for name := range allNames(p) {
		if _, twice := met[name]; twice || !tree.Name(name) {
			return false
		}
		met[name] = struct{}{}
	}
	return true
}

// allNames tells the names of all that a program has.
func allNames(p api.Prog) iter.Seq[string] {
	return func(yield func(string) bool) {
		for _, m := range p.Mems {
			if !yield(m.Name) {
				return
			}
		}
		for _, name := range p.Locks {
			if !yield(name) {
				return
			}
		}
		for _, f := range p.Funs {
			if !yield(f.Name) {
				return
			}
		}
	}
}

// maySizes says whether the Mems are as large as they may be.
func maySizes(l []api.Mem) bool {
	for _, m := range l {
		if m.Size < 1 || m.Size > api.MaxSize {
			return false
		}
	}
	return true
}

// mayHeads says whether the Funs may be, but for their instructions.
func mayHeads(l []api.Fun) bool {
	for _, f := range l {
		most := api.MaxParams
		if f.Thread {
			most = 0
		}
		if f.Params < 0 || f.Params > most || f.Regs < f.Params || f.Regs > api.MaxRegs {
			return false
		}
	}
	return true
}

// mayCodes says whether the instructions of all Funs may be.
func mayCodes(p api.Prog) bool {
	for fun := range p.Funs {
		if !mayCode(p, fun) {
			return false
		}
	}
	return true
}

// mayCode says whether a Fun's instructions may be, alone and in their row.
func mayCode(p api.Prog, fun int) bool {
	l := p.Funs[fun].Code
	if len(l) < 1 || len(l) > api.MaxIns {
		return false
	}
	for _, i := range l {
		if !MayIns(p, fun, i) {
			return false
		}
	}
	last := l[len(l)-1].Op
	return last == api.OJump || last == api.OReturn
}

// bare says whether an instruction has no register that its operation does not name.
func bare(i api.Ins) bool {
	has := namesOf(i.Op)
	return (has.r || i.R == 0) && (has.a || i.A == 0) && (has.b || i.B == 0)
}

// mayNumber says whether N is of what there is, and as many Args stand beside it as that asks for.
func mayNumber(p api.Prog, f api.Fun, i api.Ins) bool {
	args := 0
	fits := i.N == 0
	switch namesOf(i.Op).n {
	case anything:
		fits = true
	case oneKind:
		fits = i.N == int64(api.Neg) || i.N == int64(api.Not)
	case twoKind:
		fits = int64(api.Add) <= i.N && i.N <= int64(api.Or)
	case global:
		fits = within(i.N, len(p.Mems))
	case lock:
		fits = within(i.N, len(p.Locks))
	case goal:
		fits = within(i.N, len(f.Code))
	case callee:
		fits = within(i.N, len(p.Funs)) && !p.Funs[i.N].Thread
		if fits {
			args = p.Funs[i.N].Params
		}
	}
	return fits && len(i.Args) == args
}

// within says whether a number is one of as many things.
func within(n int64, count int) bool { return 0 <= n && n < int64(count) }

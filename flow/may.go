package flow

import (
	"slices"

	"bobbin/api"
	"bobbin/code"
)

// The most registers, and blocks, that a graph may have.
const (
	maxRegs   = 4 * api.MaxIns
	maxBlocks = 2 * api.MaxIns
)

// mayHead says whether a graph may be, but for what is in its blocks.
func mayHead(g api.Graph) bool {
	most := api.MaxParams
	if g.Thread {
		most = 0
	}
	return 0 <= g.Params && g.Params <= most && g.Params <= g.Regs && g.Regs <= maxRegs &&
		1 <= len(g.Blocks) && len(g.Blocks) <= maxBlocks
}

// mayEnds says whether each block ends where it may, and goes to as many blocks as it then does, all of which are there.
func mayEnds(l []api.Block) bool {
	for _, x := range l {
		if count, _ := exits(last(x.Code).Op); len(x.To) != count || !eachWithin(x.To, len(l)) {
			return false
		}
		for at := range len(x.Code) - 1 {
			if _, ends := exits(x.Code[at].Op); ends {
				return false
			}
		}
	}
	return true
}

// mayWays says whether one comes from where the blocks say, to the first one from nowhere, and not round and round without an instruction.
func mayWays(l []api.Block) bool {
	for b, from := range sources(l) {
		if !slices.Equal(l[b].From, from) {
			return false
		}
	}
	return len(l[0].From) == 0 && !idle(l)
}

// idle says whether some way leads from a block without instructions over such ones alone back to it.
func idle(l []api.Block) bool {
	walk := make([]int, len(l)) // by which block's walk one came to each one, counted from 1 on
	for b := range l {
		for at := b; len(l[at].Code) == 0; at = l[at].To[0] {
			if walk[at] == b+1 {
				return true
			}
			if walk[at] != 0 {
				break
			}
			walk[at] = b + 1
		}
	}
	return false
}

// mayPhis says whether the Phis of a graph may be.
func mayPhis(g api.Graph) bool {
	for b, x := range g.Blocks {
		if b == 0 && len(x.Phis) > 0 {
			return false
		}
		for _, phi := range x.Phis {
			if len(phi.Args) != len(x.From) || !within(phi.R, g.Regs) || !eachWithin(phi.Args, g.Regs) {
				return false
			}
		}
	}
	return true
}

// mayCodes says whether each instruction of a graph may be, in some program.
func mayCodes(g api.Graph) bool {
	p := around(g)
	return all(g, func(i api.Ins) bool { return code.MayIns(p, 0, someNumber(i)) })
}

// around is a program that begins by a Fun with a graph's registers, and one instruction: so a jump's N is 0 there.
// Behind it is a Fun of each number of Params.
func around(g api.Graph) api.Prog {
	p := api.Prog{Mems: make([]api.Mem, 1), Locks: make([]string, 1), Funs: []api.Fun{{Regs: g.Regs, Code: make([]api.Ins, 1)}}}
	for params := range api.MaxParams + 1 {
		p.Funs = append(p.Funs, api.Fun{Params: params})
	}
	return p
}

// someNumber is an instruction whose number, if it is one from 0 on of a Mem, a lock or a Fun, is one that the program around has;
// for more Args than there may be that has no Fun.
func someNumber(i api.Ins) api.Ins {
	if i.N < 0 {
		return i
	}
	switch i.Op {
	case api.OLoad, api.OStore, api.OAcquire, api.ORelease:
		i.N = 0
	case api.OCall:
		i.N = 1 + int64(len(i.Args))
	}
	return i
}

// outline is a program of instructions that has all that one of blocks has, but for the blocks: each Fun is a jump to itself.
func outline(f api.Form) api.Prog {
	p := api.Prog{Mems: f.Mems, Locks: f.Locks}
	for _, g := range f.Funs {
		// As many Regs as Params: a graph may have more of them than a Fun.
		fun := api.Fun{Name: g.Name, Thread: g.Thread, Params: g.Params, Regs: g.Params, Code: []api.Ins{{Op: api.OJump}}}
		p.Funs = append(p.Funs, fun)
	}
	return p
}

// all says whether something holds of each instruction of a graph.
func all(g api.Graph, holds func(i api.Ins) bool) bool {
	for _, x := range g.Blocks {
		for _, i := range x.Code {
			if !holds(i) {
				return false
			}
		}
	}
	return true
}

// eachWithin says whether each number is one of as many things.
func eachWithin(l []int, count int) bool {
	return !slices.ContainsFunc(l, func(n int) bool { return !within(n, count) })
}

// within says whether a number is one of as many things.
func within(n, count int) bool { return 0 <= n && n < count }

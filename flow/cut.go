package flow

import (
	"bobbin/api"
	"bobbin/code"
)

// graph is a Fun, cut into blocks.
func graph(f api.Fun) api.Graph {
	g := api.Graph{Name: f.Name, Thread: f.Thread, Params: f.Params, Regs: f.Regs, Blocks: reached(cut(f.Code))}
	for b, from := range sources(g.Blocks) {
		g.Blocks[b].From = from
	}
	return g
}

// cut is instructions, cut into blocks, also those to which one does not come; From is not told yet.
func cut(l []api.Ins) []api.Block {
	starts := begins(l)
	block := make([]int, len(l))
	for b, start := range starts {
		block[start] = b
	}
	rest := bare(l)
	out := make([]api.Block, len(starts))
	for b, start := range starts {
		end := len(l)
		if b+1 < len(starts) {
			end = starts[b+1]
		}
		out[b] = api.Block{Code: rest[start:end:end], To: goals(last(l[start:end]), b+1, block)}
	}
	return out
}

// begins are the instructions that begin a block, rising. If one goes to the first one, it stands there twice:
// so the first block has none.
func begins(l []api.Ins) []int {
	begin := make([]bool, len(l)+1)
	for at, i := range l {
		if goal, goes := code.Goal(i); goes {
			begin[goal] = true
		}
		if _, ends := exits(i.Op); ends {
			begin[at+1] = true
		}
	}
	var out []int
	if begin[0] {
		out = append(out, 0)
	}
	begin[0] = true
	for at := range l {
		if begin[at] {
			out = append(out, at)
		}
	}
	return out
}

// bare is a copy of instructions that don't say where they go to.
func bare(l []api.Ins) []api.Ins {
	out := own(l)
	for at := range out {
		i := &out[at]
		i.Args = own(i.Args)
		if _, goes := code.Goal(*i); goes {
			i.N = 0
		}
	}
	return out
}

// goals are the blocks to which one goes behind the last instruction of a block; next is the one behind it, and
// block tells the blocks by their first instructions.
func goals(i api.Ins, next int, block []int) []int {
	var out []int
	if i.Op != api.OJump && i.Op != api.OReturn {
		out = append(out, next)
	}
	if goal, goes := code.Goal(i); goes {
		out = append(out, block[goal])
	}
	return out
}

// reached are the blocks to which one comes from the first one, numbered anew.
func reached(l []api.Block) []api.Block {
	met := make([]bool, len(l))
	var come func(b int)
	come = func(b int) {
		if met[b] {
			return
		}
		met[b] = true
		for _, to := range l[b].To {
			come(to)
		}
	}
	come(0)
	number := make([]int, len(l))
	var out []api.Block
	for b, x := range l {
		if met[b] {
			number[b] = len(out)
			out = append(out, x)
		}
	}
	for _, x := range out {
		for way, to := range x.To {
			x.To[way] = number[to]
		}
	}
	return out
}

// sources are, of each block, those from which one comes to it, rising, each once.
func sources(l []api.Block) [][]int {
	out := make([][]int, len(l))
	for b, x := range l {
		for _, to := range x.To {
			from := out[to]
			// Both ways of a branch may lead to one block.
			if len(from) == 0 || from[len(from)-1] != b {
				out[to] = append(from, b)
			}
		}
	}
	return out
}

// last is the last instruction, or one of no operation, if there is none.
func last(l []api.Ins) api.Ins {
	if len(l) == 0 {
		return api.Ins{}
	}
	return l[len(l)-1]
}

// exits is to how many blocks one goes behind an operation that stands last, and whether a block ends by it.
func exits(op uint8) (int, bool) {
	switch op {
	case api.OJump:
		return 1, true
	case api.OBranch:
		return 2, true
	case api.OReturn:
		return 0, true
	}
	return 1, false
}

// own is a copy of a list that shares nothing with it, also where it is empty.
func own[T any](l []T) []T { return append([]T(nil), l...) }

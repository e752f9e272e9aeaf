package flow_test

import (
	"fmt"
	"regexp"
	"slices"
	"strings"

	"bobbin/api"
)

// This file says what the chapter says in other words: of each instruction whether it begins a block, whether one
// comes to it, and to which ones one goes; of a graph what each rule asks, block by block.

// written is anything written out; lists that are empty are alike.
func written(x any) string { return strings.ReplaceAll(fmt.Sprintf("%#v", x), "(nil)", "{}") }

// goesTo are the instructions to which one goes from an instruction, in their row.
func goesTo(l []api.Ins, at int) []int {
	n := int(l[at].N)
	switch l[at].Op {
	case api.OJump:
		return []int{n}
	case api.OBranch:
		return []int{at + 1, n}
	case api.OReturn:
		return nil
	}
	return []int{at + 1}
}

// isGoal says whether an instruction jumps, or branches, to this one.
func isGoal(l []api.Ins, at int) bool {
	return slices.ContainsFunc(l, func(i api.Ins) bool {
		return (i.Op == api.OJump || i.Op == api.OBranch) && i.N == int64(at)
	})
}

// isBegin says whether an instruction begins a block.
func isBegin(l []api.Ins, at int) bool {
	return at == 0 || isGoal(l, at) || slices.Contains([]uint8{api.OJump, api.OBranch, api.OReturn}, l[at-1].Op)
}

// comesTo says of each instruction whether one comes to it.
func comesTo(l []api.Ins) []bool {
	come := make([]bool, len(l))
	come[0] = true
	for more := true; more; {
		more = false
		for at := range l {
			for _, to := range goesTo(l, at) {
				if come[at] && !come[to] {
					come[to], more = true, true
				}
			}
		}
	}
	return come
}

// stripped is an instruction as it stands in a block.
func stripped(i api.Ins) api.Ins {
	if i.Op == api.OJump || i.Op == api.OBranch {
		i.N = 0
	}
	return i
}

// blocked are a Fun's instructions, in blocks.
func blocked(l []api.Ins) []api.Block {
	come := comesTo(l)
	var out []api.Block
	if isGoal(l, 0) {
		out = append(out, api.Block{To: []int{1}})
	}
	number := make([]int, len(l))
	for at, i := range l {
		if !come[at] {
			continue
		}
		if isBegin(l, at) {
			number[at] = len(out)
			out = append(out, api.Block{})
		}
		x := &out[len(out)-1]
		x.Code = append(x.Code, stripped(i))
		x.To = goesTo(l, at)
	}
	for b := range out {
		if len(out[b].Code) == 0 {
			continue
		}
		to := make([]int, len(out[b].To))
		for way, at := range out[b].To {
			to[way] = number[at]
		}
		out[b].To = to
	}
	settle(out)
	return out
}

// formOf is a program in blocks.
func formOf(p api.Prog) api.Form {
	f := api.Form{Mems: p.Mems, Locks: p.Locks}
	for _, fun := range p.Funs {
		f.Funs = append(f.Funs, api.Graph{Name: fun.Name, Thread: fun.Thread, Params: fun.Params, Regs: fun.Regs, Blocks: blocked(fun.Code)})
	}
	return f
}

// comesFrom are the blocks in whose To a block stands.
func comesFrom(l []api.Block, b int) []int {
	var out []int
	for from, x := range l {
		if slices.Contains(x.To, b) {
			out = append(out, from)
		}
	}
	return out
}

// okAlone says whether an instruction may be in a graph of so many registers, whatever the program.
func okAlone(regs int, i api.Ins) bool {
	reg := func(l ...int) bool {
		return !slices.ContainsFunc(l, func(r int) bool { return r <= -1 || r > regs-1 })
	}
	place := i.A == -1 || reg(i.A)
	only := func(j api.Ins) bool { j.Op = i.Op; return written(i) == written(j) }
	switch i.Op {
	case api.OConst:
		return reg(i.R) && only(api.Ins{R: i.R, N: i.N})
	case api.OMove:
		return reg(i.R, i.A) && only(api.Ins{R: i.R, A: i.A})
	case api.OUnary:
		return reg(i.R, i.A) && (i.N == 5 || i.N == 6) && only(api.Ins{R: i.R, A: i.A, N: i.N})
	case api.OBinary:
		return reg(i.R, i.A, i.B) && 6 < i.N && i.N < 18 && only(api.Ins{R: i.R, A: i.A, B: i.B, N: i.N})
	case api.OLoad:
		return reg(i.R) && place && i.N > -1 && only(api.Ins{R: i.R, A: i.A, N: i.N})
	case api.OStore:
		return place && reg(i.B) && i.N > -1 && only(api.Ins{A: i.A, B: i.B, N: i.N})
	case api.OAcquire, api.ORelease:
		return i.N > -1 && only(api.Ins{N: i.N})
	case api.OPrint, api.OReturn, api.OBranch:
		return reg(i.A) && only(api.Ins{A: i.A})
	case api.OCall:
		return reg(i.R) && reg(i.Args...) && i.N > -1 && len(i.Args) < 9 && only(api.Ins{R: i.R, N: i.N, Args: i.Args})
	case api.OJump:
		return only(api.Ins{})
	}
	return false
}

// okNumber says whether an instruction that may be names what a program has.
func okNumber(f api.Form, i api.Ins) bool {
	switch i.Op {
	case api.OLoad, api.OStore:
		return i.N < int64(len(f.Mems))
	case api.OAcquire, api.ORelease:
		return i.N < int64(len(f.Locks))
	case api.OCall:
		return i.N < int64(len(f.Funs)) && !f.Funs[i.N].Thread && f.Funs[i.N].Params == len(i.Args)
	}
	return true
}

// okIdle says whether one comes to an instruction from each block, in as many ways as there are blocks.
func okIdle(l []api.Block) bool {
	for b := range l {
		for range l {
			if len(l[b].Code) == 0 {
				b = l[b].To[0]
			}
		}
		if len(l[b].Code) == 0 {
			return false
		}
	}
	return true
}

// okEnd says whether a block ends as it may, and goes to blocks.
func okEnd(x api.Block, count int) bool {
	ops := map[uint8]int{}
	ways := 1
	for _, i := range x.Code {
		ops[i.Op]++
		ways = len(goesTo([]api.Ins{i}, 0))
	}
	ends := ops[api.OJump] + ops[api.OBranch] + ops[api.OReturn]
	if n := len(x.Code); ends > 1 || ends == 1 && !slices.Contains([]uint8{api.OJump, api.OBranch, api.OReturn}, x.Code[n-1].Op) {
		return false
	}
	return len(x.To) == ways && !slices.ContainsFunc(x.To, func(to int) bool { return to <= -1 || to > count-1 })
}

// okPhis says whether a block's Phis may be.
func okPhis(x api.Block, first bool, regs int) bool {
	for _, phi := range x.Phis {
		all := append([]int{phi.R}, phi.Args...)
		if first || len(phi.Args) != len(x.From) || slices.Min(all) < 0 || slices.Max(all) >= regs {
			return false
		}
	}
	return true
}

func okGraph(g api.Graph) bool {
	count := len(g.Blocks)
	if count == 0 || count > 32768 || g.Params < 0 || g.Params > 8 || g.Thread && g.Params > 0 || g.Regs < g.Params || g.Regs > 65536 {
		return false
	}
	for b, x := range g.Blocks {
		if !okEnd(x, count) || !okPhis(x, b == 0, g.Regs) || !slices.Equal(x.From, comesFrom(g.Blocks, b)) {
			return false
		}
		if slices.ContainsFunc(x.Code, func(i api.Ins) bool { return !okAlone(g.Regs, i) }) {
			return false
		}
	}
	return len(g.Blocks[0].From) == 0 && okIdle(g.Blocks)
}

var nameForm = regexp.MustCompile(`^[a-zA-Z_][a-zA-Z0-9_]{0,31}$`)

const reserved = " global array lock func thread var if else while with print call return true false "

func okForm(f api.Form) bool {
	names, threads := slices.Clone(f.Locks), 0
	for _, m := range f.Mems {
		names = append(names, m.Name)
		if m.Size < 1 || m.Size > 1024 {
			return false
		}
	}
	for _, g := range f.Funs {
		names = append(names, g.Name)
		if g.Thread {
			threads++
		}
		if !okGraph(g) {
			return false
		}
		for _, x := range g.Blocks {
			if slices.ContainsFunc(x.Code, func(i api.Ins) bool { return !okNumber(f, i) }) {
				return false
			}
		}
	}
	slices.Sort(names)
	count := len(names)
	return count <= 256 && threads <= 16 && len(slices.Compact(slices.Clone(names))) == count && !slices.ContainsFunc(names, func(s string) bool {
		return !nameForm.MatchString(s) || strings.Contains(reserved, " "+s+" ")
	})
}

package ssa

import "bobbin/api"

// lives finds where registers are live, one after the other, by going back from where they are read: so nothing is gone
// through but what is told.
type lives struct {
	blocks []api.Block
	sets   [][]int // of each register the blocks that set it
	begin  [][]int // of each register the blocks that read it, and nothing in them sets it ahead of that
	end    [][]int // of each register the blocks at whose end a Phi behind them reads it
	set    []int   // of each block the register, counted from 1 on, that it was last seen to set
	met    []int   // of each block the register, counted from 1 on, that was last found live at its begin
}

// livesOf is what finds where a graph's registers are live.
func livesOf(g api.Graph) *lives {
	n := len(g.Blocks)
	l := &lives{blocks: g.Blocks, set: make([]int, n), met: make([]int, n)}
	l.sets, l.begin, l.end = make([][]int, g.Regs), make([][]int, g.Regs), make([][]int, g.Regs)
	for b, x := range g.Blocks {
		for r := range needs(x) {
			l.begin[r] = append(l.begin[r], b)
		}
		for _, i := range x.Code {
			if r, sets := Sets(i); sets {
				l.sets[r] = append(l.sets[r], b)
			}
		}
		for _, phi := range x.Phis {
			l.sets[phi.R] = append(l.sets[phi.R], b)
			for n, r := range phi.Args {
				l.end[r] = append(l.end[r], x.From[n])
			}
		}
	}
	return l
}

// needs are the registers that a block reads, and nothing in it sets ahead of that. Its instructions are gone through
// from the last one on, so that what was live behind one is taken away where that one sets it.
func needs(x api.Block) map[int]struct{} {
	out := map[int]struct{}{}
	for at := len(x.Code) - 1; at >= 0; at-- {
		if r, sets := Sets(x.Code[at]); sets {
			delete(out, r)
		}
		for _, r := range Reads(x.Code[at]) {
			out[r] = struct{}{}
		}
	}
	for _, phi := range x.Phis {
		delete(out, phi.R)
	}
	return out
}

// begins are the blocks at whose begin a register is live.
func (l *lives) begins(r int) []int {
	for _, b := range l.sets[r] {
		l.set[b] = r + 1
	}
	var out []int
	live := func(b int) {
		if l.met[b] != r+1 {
			l.met[b] = r + 1
			out = append(out, b)
		}
	}
	liveBehind := func(blocks []int) {
		for _, b := range blocks {
			if l.set[b] != r+1 {
				live(b)
			}
		}
	}
	for _, b := range l.begin[r] {
		live(b)
	}
	liveBehind(l.end[r])
	for at := 0; at < len(out); at++ {
		liveBehind(l.blocks[out[at]].From)
	}
	return out
}

// tell adds a register to the lists of some blocks.
func tell(l [][]int, blocks []int, r int) {
	for _, b := range blocks {
		l[b] = append(l[b], r)
	}
}

package ssa_test

import (
	"slices"
	"testing"

	"bobbin/api"
	"bobbin/dom"
	"bobbin/front"
)

// This file says what the chapter says in other words: what is live is asked of all ways, one register and one block after
// the other; Phis are placed in the whole graph; what was given last is looked for by going back from where it is read.

// readsOf are the registers that an instruction reads.
func readsOf(i api.Ins) []int {
	var out []int
	switch i.Op {
	case api.OMove, api.OUnary, api.OPrint, api.OBranch, api.OReturn, api.OBinary:
		out = append(out, i.A)
	case api.OLoad, api.OStore:
		if i.A != -1 {
			out = append(out, i.A)
		}
	}
	if i.Op == api.OBinary || i.Op == api.OStore {
		out = append(out, i.B)
	}
	if i.Op == api.OCall {
		out = append(out, i.Args...)
	}
	return out
}

// setsIt says whether an instruction sets a register.
func setsIt(i api.Ins, r int) bool {
	return i.R == r && (i.Op >= api.OConst && i.Op <= api.OLoad || i.Op == api.OCall)
}

// isLive says whether a register is live at a block's begin: all ways from there on are gone, each block once.
func isLive(l []api.Block, b, r int) bool {
	met := map[int]bool{}
	var walk func(b int) bool
	walk = func(b int) bool {
		if met[b] || isChosen(l[b], r) {
			return false
		}
		met[b] = true
		for _, i := range l[b].Code {
			if slices.Contains(readsOf(i), r) {
				return true
			}
			if setsIt(i, r) {
				return false
			}
		}
		for _, to := range l[b].To {
			way := slices.Index(l[to].From, b)
			for _, p := range l[to].Phis {
				if p.Args[way] == r {
					return true
				}
			}
		}
		return slices.ContainsFunc(l[b].To, walk)
	}
	return walk(b)
}

// isChosen says whether a register is R of a Phi of a block.
func isChosen(x api.Block, r int) bool {
	return slices.ContainsFunc(x.Phis, func(p api.Phi) bool { return p.R == r })
}

// liveOf are, of each block, the registers that are live at its begin.
func liveOf(g api.Graph) [][]int {
	out := make([][]int, len(g.Blocks))
	for b := range out {
		for r := range g.Regs {
			if isLive(g.Blocks, b, r) {
				out[b] = append(out[b], r)
			}
		}
	}
	return out
}

// ways are, of each block, those to which one goes.
func ways(l []api.Block) [][]int {
	var out [][]int
	for _, x := range l {
		out = append(out, x.To)
	}
	return out
}

// choicesOf are, of each block, the registers that get a Phi there.
func choicesOf(g api.Graph) [][]int {
	out := make([][]int, len(g.Blocks))
	for r := range g.Regs {
		set := []int{0}
		for b, x := range g.Blocks {
			if slices.ContainsFunc(x.Code, func(i api.Ins) bool { return setsIt(i, r) }) {
				set = append(set, b)
			}
		}
		for _, b := range front.Placed(ways(g.Blocks), set) {
			if isLive(g.Blocks, b, r) {
				out[b] = append(out[b], r)
			}
		}
	}
	return out
}

// judge gives registers new numbers.
type judge struct {
	g       api.Graph
	tree    *dom.Tree
	choices [][]int
	phis    [][]int // of each block the numbers of its Phis
	sets    [][]int // of each block the numbers that its instructions set; -1, if one sets none
	regs    int
}

// given is a judge that has given all numbers.
func given(t *testing.T, g api.Graph) *judge {
	t.Helper()
	tree, err := dom.Of(ways(g.Blocks))
	if err != api.OK {
		t.Fatal(err)
	}
	n := len(g.Blocks)
	j := &judge{g: g, tree: tree, choices: choicesOf(g), phis: make([][]int, n), sets: make([][]int, n), regs: g.Params}
	for _, b := range tree.Order() {
		for range j.choices[b] {
			j.phis[b] = append(j.phis[b], j.regs)
			j.regs++
		}
		for _, i := range g.Blocks[b].Code {
			if setsIt(i, i.R) {
				j.sets[b] = append(j.sets[b], j.regs)
				j.regs++
			} else {
				j.sets[b] = append(j.sets[b], -1)
			}
		}
	}
	return j
}

// last is the number that was given last to a register, ahead of an instruction of a block.
func (j *judge) last(b, at, r int) int {
	for at--; at >= 0; at-- {
		if setsIt(j.g.Blocks[b].Code[at], r) {
			return j.sets[b][at]
		}
	}
	if n := slices.Index(j.choices[b], r); n >= 0 {
		return j.phis[b][n]
	}
	if up := j.tree.Next(b); up >= 0 {
		return j.last(up, len(j.g.Blocks[up].Code), r)
	}
	if r >= j.g.Params {
		panic("no number was given")
	}
	return r
}

// once is a graph with each register set once.
func once(t *testing.T, g api.Graph) api.Graph {
	t.Helper()
	j := given(t, g)
	out := clone(g)
	out.Regs = j.regs
	for b := range out.Blocks {
		x := &out.Blocks[b]
		for n, r := range j.choices[b] {
			p := api.Phi{R: j.phis[b][n]}
			for _, from := range x.From {
				p.Args = append(p.Args, j.last(from, len(g.Blocks[from].Code), r))
			}
			x.Phis = append(x.Phis, p)
		}
		for at := range x.Code {
			j.rename(&x.Code[at], b, at)
		}
	}
	return out
}

// rename gives an instruction the new numbers.
func (j *judge) rename(i *api.Ins, b, at int) {
	switch i.Op {
	case api.OMove, api.OUnary, api.OPrint, api.OBranch, api.OReturn, api.OBinary, api.OLoad, api.OStore:
		if i.A != -1 {
			i.A = j.last(b, at, i.A)
		}
	}
	if i.Op == api.OBinary || i.Op == api.OStore {
		i.B = j.last(b, at, i.B)
	}
	for n := range i.Args {
		i.Args[n] = j.last(b, at, i.Args[n])
	}
	if n := j.sets[b][at]; n >= 0 {
		i.R = n
	}
}

// clone is a graph that shares nothing with another one.
func clone(g api.Graph) api.Graph {
	g.Blocks = slices.Clone(g.Blocks)
	for b := range g.Blocks {
		x := &g.Blocks[b]
		x.Phis, x.Code, x.From, x.To = slices.Clone(x.Phis), slices.Clone(x.Code), slices.Clone(x.From), slices.Clone(x.To)
		for n := range x.Phis {
			x.Phis[n].Args = slices.Clone(x.Phis[n].Args)
		}
		for at := range x.Code {
			x.Code[at].Args = slices.Clone(x.Code[at].Args)
		}
	}
	return g
}

package ssa

import (
	"slices"

	"bobbin/api"
	"bobbin/dom"
)

// naming gives registers new numbers, block by block.
type naming struct {
	blocks []api.Block
	phis   [][]int // of each block the registers that get a Phi there
	next   int     // the number that is given next
}

// numbered are the blocks of a graph with new numbers, and how many numbers there are; told by what is above what, and,
// of each block, by the registers that are live at its begin, and those that get a Phi there.
func numbered(g api.Graph, tree *dom.Tree, live, phis [][]int) ([]api.Block, int) {
	w := &naming{phis: phis, next: g.Params}
	for b, x := range g.Blocks {
		w.blocks = append(w.blocks, withPhis(x, len(phis[b])))
	}
	numbers := make([]map[int]int, len(g.Blocks))
	numbers[0] = map[int]int{}
	for r := range g.Params {
		numbers[0][r] = r
	}
	for _, b := range tree.Order() {
		w.number(b, numbers[b])
		for _, kid := range tree.Kids(b) {
			numbers[kid] = copied(numbers[b], live[kid])
		}
		numbers[b] = nil // Else there were as many of them at a time as blocks.
	}
	return w.blocks, w.next
}

// withPhis is a block of its own, with room for as many Phis.
func withPhis(x api.Block, count int) api.Block {
	out := api.Block{Code: own(x.Code), From: own(x.From), To: own(x.To)}
	for at := range out.Code {
		out.Code[at].Args = own(out.Code[at].Args)
	}
	for range count {
		out.Phis = append(out.Phis, api.Phi{Args: make([]int, len(x.From))})
	}
	return out
}

// copied is a copy of numbers for a block below: just of what is live there, since nothing else is read.
func copied(numbers map[int]int, live []int) map[int]int {
	out := make(map[int]int, len(live))
	for _, r := range live {
		out[r] = numbers[r]
	}
	return out
}

// number gives new numbers in a block, and in the Phis to which one goes from there. Numbers are those that were given
// last to registers on the way to it; behind it they are those at its end.
func (w *naming) number(b int, numbers map[int]int) {
	x := &w.blocks[b]
	for n, r := range w.phis[b] {
		x.Phis[n].R = w.give(numbers, r)
	}
	for at := range x.Code {
		i := &x.Code[at]
		for _, r := range read(i) {
			*r = numbers[*r]
		}
		if r, sets := Sets(*i); sets {
			i.R = w.give(numbers, r)
		}
	}
	for _, to := range x.To {
		way, _ := slices.BinarySearch(w.blocks[to].From, b)
		for n, r := range w.phis[to] {
			w.blocks[to].Phis[n].Args[way] = numbers[r]
		}
	}
}

// give gives a register the next number.
func (w *naming) give(numbers map[int]int, r int) int {
	n := w.next
	numbers[r] = n
	w.next++
	return n
}

package front

import "bobbin/dom"

// work is what is placed, as far as it is known, and the blocks whose frontiers are left to be placed, too.
//
// The deep ones are done ahead of the others: what is in a block's frontier is not deeper than the block itself. And
// what a block leads to by one that a deeper one is above, that one leads to as well: so no block is gone through
// twice, and frontiers, that may be far more than the blocks, are not made.
type work struct {
	to     [][]int
	tree   *dom.Tree
	over   func(a, b int) bool
	deep   []int   // of each block that is reached how many are over it
	left   [][]int // by how deep they are: those that are left
	kept   []bool  // those of the set, and those that are placed
	placed []bool
	gone   []bool // those that were gone through
}

// begin is the work on a graph of which nothing is placed.
func begin(to [][]int, tree *dom.Tree) *work {
	w := &work{to: to, tree: tree, over: overs(tree), deep: make([]int, len(to))}
	w.kept, w.placed, w.gone = make([]bool, len(to)), make([]bool, len(to)), make([]bool, len(to))
	var count []int
	for _, b := range tree.Order() {
		if b > 0 {
			w.deep[b] = w.deep[tree.Next(b)] + 1
		}
		if w.deep[b] == len(count) {
			count = append(count, 0)
		}
		count[w.deep[b]]++
	}
	w.left = rows(count)
	return w
}

// rows are empty lists, each with room for its count alone. All are cut out of one list, so that none runs into the
// next one.
func rows(count []int) [][]int {
	all := 0
	for _, n := range count {
		all += n
	}
	room := make([]int, all)
	var out [][]int
	for _, n := range count {
		out = append(out, room[:0:n])
		room = room[n:]
	}
	return out
}

// keep leaves a block's frontier to be placed; just once, so that the room is enough.
func (w *work) keep(b int) {
	if !w.kept[b] {
		w.kept[b] = true
		w.left[w.deep[b]] = append(w.left[w.deep[b]], b)
	}
}

// goOn places till nothing is left.
func (w *work) goOn() {
	for deep := len(w.left) - 1; deep >= 0; deep-- {
		for len(w.left[deep]) > 0 {
			b := w.left[deep][0]
			w.left[deep] = w.left[deep][1:]
			w.down(b, b)
		}
	}
}

// down places what is in a block's frontier, as far as one comes there from b, or from what b is above.
func (w *work) down(b, top int) {
	if w.gone[b] {
		return
	}
	w.gone[b] = true
	for _, next := range w.to[b] {
		if !w.over(top, next) {
			w.placed[next] = true
			w.keep(next)
		}
	}
	for _, kid := range w.tree.Kids(b) {
		w.down(kid, top)
	}
}

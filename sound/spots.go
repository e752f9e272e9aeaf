package sound

import (
	"iter"

	"bobbin/api"
	"bobbin/code"
	"bobbin/dom"
)

// begin is the At of what is set at the begin of a block, ahead of all its instructions.
const begin = -1

// spots tells, block by block, each register that is set, and where: as often as it is.
func spots(g api.Graph) iter.Seq2[int, Spot] {
	return func(yield func(int, Spot) bool) {
		for r := range g.Params {
			if !yield(r, Spot{Block: 0, At: begin}) {
				return
			}
		}
		for b, x := range g.Blocks {
			if !tell(b, x, yield) {
				return
			}
		}
	}
}

// tell tells the registers that are set in a block, and says whether more is asked for.
func tell(b int, x api.Block, yield func(int, Spot) bool) bool {
	for _, phi := range x.Phis {
		if !yield(phi.R, Spot{Block: b, At: begin}) {
			return false
		}
	}
	for at, i := range x.Code {
		if r, sets := code.Writes(i); sets && !yield(r, Spot{Block: b, At: at}) {
			return false
		}
	}
	return true
}

// asked says whether a register is there at an instruction of a block; behind the last one is the block's end.
type asked func(r, b, at int) bool

// allThere says whether all that is read in a graph is there, told by what is above what, and by where registers are set.
func allThere(g api.Graph, tree *dom.Tree, set []Spot) bool {
	there := func(r, b, at int) bool {
		spot := set[r]
		if spot.Block == b {
			return spot.At < at
		}
		return tree.Above(spot.Block, b)
	}
	for b, x := range g.Blocks {
		if !choicesThere(g.Blocks, x, there) || !codeThere(b, x.Code, there) {
			return false
		}
	}
	return true
}

// choicesThere says whether all that the Phis of one of some blocks read is there, at the ends of those from which one comes.
func choicesThere(l []api.Block, x api.Block, there asked) bool {
	for way, from := range x.From {
		for _, phi := range x.Phis {
			if !there(phi.Args[way], from, len(l[from].Code)) {
				return false
			}
		}
	}
	return true
}

// codeThere says whether all that the instructions of a block read is there.
func codeThere(b int, l []api.Ins, there asked) bool {
	for at, i := range l {
		for _, r := range code.Reads(i) {
			if !there(r, b, at) {
				return false
			}
		}
	}
	return true
}

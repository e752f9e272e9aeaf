package ssa

import (
	"slices"

	"bobbin/api"
	"bobbin/front"
)

// placed tells of each block the registers that are live at its begin, and those that get a Phi there, both rising. It
// says no, if at the begin of block 0 one is live that is no parameter.
func placed(g api.Graph) (live, phis [][]int, known bool) {
	l := livesOf(g)
	s := &small{blocks: g.Blocks, number: make([]int, len(g.Blocks))}
	live, phis = make([][]int, len(g.Blocks)), make([][]int, len(g.Blocks))
	for r := range g.Regs {
		begins := l.begins(r)
		if r >= g.Params && slices.Contains(begins, 0) {
			return nil, nil, false
		}
		tell(live, begins, r)
		tell(phis, s.phis(begins, l.sets[r]), r)
	}
	return live, phis, true
}

// small makes small graphs, one for each register, of those blocks alone that have to do with it: the whole graph gone
// through for each of many registers would take long.
//
// Such a graph has block 0, the blocks at whose begin the register is live, and those that set it; its ways are those
// that lead to where the register is live, and from block 0 to each other one. What is placed where the register is live
// hangs on no other ways: it is live at the end of each block from which one comes there, so that this one sets it, or is
// itself such a one; and how one comes to a block that sets it says nothing of what is behind that.
type small struct {
	blocks []api.Block
	number []int // of each block its number in the small graph; 0 of those that are not in it
	nodes  []int // the blocks that are in it
	live   int   // those from 1 on, ahead of this one, are those at whose begin the register is live
}

// phis are the blocks that get a Phi of a register, told by where it is live and by what sets it.
func (s *small) phis(live, sets []int) []int {
	if len(live) == 0 || !slices.ContainsFunc(sets, behind) {
		return nil // block 0 alone sets it
	}
	s.nodes = []int{0}
	s.add(live)
	s.live = len(s.nodes)
	s.add(sets)
	set := []int{0}
	for _, b := range sets {
		set = append(set, s.number[b])
	}
	var out []int
	for _, n := range front.Placed(s.ways(), set) {
		out = append(out, s.nodes[n])
	}
	for _, b := range s.nodes {
		s.number[b] = 0
	}
	return out
}

// behind says whether a block is not block 0.
func behind(b int) bool { return b != 0 }

// add adds to a small graph those of some blocks that are not in it yet.
func (s *small) add(l []int) {
	for _, b := range l {
		if behind(b) && s.number[b] == 0 {
			s.number[b] = len(s.nodes)
			s.nodes = append(s.nodes, b)
		}
	}
}

// ways are, of each block of a small graph, those to which one goes.
func (s *small) ways() [][]int {
	to := make([][]int, len(s.nodes))
	for n, b := range s.nodes {
		for _, next := range s.blocks[b].To {
			if at := s.number[next]; 0 < at && at < s.live {
				to[n] = append(to[n], at)
			}
		}
	}
	for n := s.live; n < len(s.nodes); n++ {
		to[0] = append(to[0], n)
	}
	return to
}

package sound_test

import (
	"slices"

	"bobbin/api"
	"bobbin/flow"
	"bobbin/sound"
)

// This file says what the chapter says in other words: of each register all places are gone through, one by one; a block
// is above another one, if one doesn't come there with it shut; and all ways from block 0 are gone.

// readsOf are the registers that an instruction reads.
func readsOf(i api.Ins) []int {
	var out []int
	switch i.Op {
	case api.OMove, api.OUnary, api.OPrint, api.OBranch, api.OReturn, api.OBinary:
		out = append(out, i.A)
	case api.OLoad, api.OStore:
		if i.A != -1 {
			out = append(out, i.A)
		}
	}
	if i.Op == api.OBinary || i.Op == api.OStore {
		out = append(out, i.B)
	}
	if i.Op == api.OCall {
		out = append(out, i.Args...)
	}
	return out
}

// setsIt says whether an instruction sets a register.
func setsIt(i api.Ins, r int) bool {
	return i.R == r && (i.Op >= api.OConst && i.Op <= api.OLoad || i.Op == api.OCall)
}

// spotsOf are all the spots at which a register is set, as often as it is.
func spotsOf(g api.Graph, r int) []sound.Spot {
	var out []sound.Spot
	if r < g.Params {
		out = append(out, sound.Spot{Block: 0, At: -1})
	}
	for b, x := range g.Blocks {
		for _, p := range x.Phis {
			if p.R == r {
				out = append(out, sound.Spot{Block: b, At: -1})
			}
		}
		for at, i := range x.Code {
			if setsIt(i, r) {
				out = append(out, sound.Spot{Block: b, At: at})
			}
		}
	}
	return out
}

// comes are the blocks to which one comes from block 0 with one of them shut; -1 for none.
func comes(l []api.Block, shut int) []bool {
	met := make([]bool, len(l))
	var walk func(b int)
	walk = func(b int) {
		if met[b] || b == shut {
			return
		}
		met[b] = true
		for _, to := range l[b].To {
			walk(to)
		}
	}
	walk(0)
	return met
}

// setOf is what Set is to answer.
func setOf(g api.Graph) ([]sound.Spot, api.Errno) {
	if !flow.May(g) || slices.Contains(comes(g.Blocks, -1), false) {
		return nil, api.ErrForm
	}
	var out []sound.Spot
	for r := range g.Regs {
		l := spotsOf(g, r)
		switch len(l) {
		case 0:
			out = append(out, sound.Spot{Block: -1, At: -1})
		case 1:
			out = append(out, l[0])
		default:
			return nil, api.ErrTwice
		}
	}
	return out, api.OK
}

// checkOf is what Check is to answer.
func checkOf(g api.Graph) api.Errno {
	set, err := setOf(g)
	if err != api.OK {
		return err
	}
	above := make([][]bool, len(g.Blocks)) // whether one comes to a block with another one shut
	for b := range above {
		above[b] = comes(g.Blocks, b)
	}
	isThere := func(r, b, at int) bool {
		s := set[r]
		return s.Block == b && s.At < at || s.Block >= 0 && s.Block != b && !above[s.Block][b]
	}
	for b, x := range g.Blocks {
		for _, p := range x.Phis {
			for way, from := range x.From {
				if !isThere(p.Args[way], from, len(g.Blocks[from].Code)) {
					return api.ErrNone
				}
			}
		}
		for at, i := range x.Code {
			for _, r := range readsOf(i) {
				if !isThere(r, b, at) {
					return api.ErrNone
				}
			}
		}
	}
	return api.OK
}

// walk is a way from block 0, so far: what was set on it, where.
type walk struct {
	g   api.Graph
	set map[int]sound.Spot
	ok  bool // what was read was set ahead of that, and no register at two spots
}

// sets sets a register on a way.
func (w *walk) sets(r int, s sound.Spot) {
	if was, is := w.set[r]; is && was != s {
		w.ok = false
	}
	w.set[r] = s
}

// reads reads a register on a way.
func (w *walk) reads(r int) {
	if _, is := w.set[r]; !is {
		w.ok = false
	}
}

// block goes through a block, told by the one from which one comes; -1, if it is where one begins.
func (w *walk) block(b, from int) {
	x := w.g.Blocks[b]
	for _, p := range x.Phis {
		w.reads(p.Args[slices.Index(x.From, from)])
	}
	for _, p := range x.Phis {
		w.sets(p.R, sound.Spot{Block: b, At: -1})
	}
	for at, i := range x.Code {
		for _, r := range readsOf(i) {
			w.reads(r)
		}
		if setsIt(i, i.R) {
			w.sets(i.R, sound.Spot{Block: b, At: at})
		}
	}
}

// ways calls what is handed in for each way from block 0 of as many blocks, or fewer, where it ends.
func ways(l []api.Block, most int, each func(way []int)) {
	var on func(way []int)
	on = func(way []int) {
		to := l[way[len(way)-1]].To
		if len(way) == most || len(to) == 0 {
			each(way)
			return
		}
		for n, next := range to {
			if !slices.Contains(to[:n], next) {
				on(append(slices.Clone(way), next))
			}
		}
	}
	on([]int{0})
}

// walked is what comes of one way.
func walked(g api.Graph, way []int) *walk {
	w := &walk{g: g, set: map[int]sound.Spot{}, ok: true}
	for r := range g.Params {
		w.sets(r, sound.Spot{Block: 0, At: -1})
	}
	from := -1
	for _, b := range way {
		w.block(b, from)
		from = b
	}
	return w
}

// onAllWays says whether on all ways from block 0, of as many blocks at most, what is read was set, and no register at two spots.
func onAllWays(g api.Graph, most int) bool {
	ok := true
	ways(g.Blocks, most, func(way []int) { ok = ok && walked(g, way).ok })
	return ok
}

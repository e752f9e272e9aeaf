package dom

import "iter"

// walk is a graph that was gone through from block 0 on, deep ahead of wide. It speaks of blocks by their ranks, the
// row in which they were met: so what is over one has a lower rank, and a way from a lower rank to a higher one goes
// by one that is over both, or is one of them.
type walk struct {
	met  []int   // by rank: the block
	over []int   // by rank: the one from which one came to it first (of block 0: -1)
	low  []int   // by rank: the lowest one from which one goes to it, or itself, if that is lower
	late [][]int // by rank: those of higher ranks from which one goes to it
}

// through is the walk through a graph.
func through(to [][]int) *walk {
	w := &walk{}
	rank := none(len(to))
	var come func(b, over int)
	come = func(b, over int) {
		if rank[b] >= 0 {
			return
		}
		rank[b] = len(w.met)
		w.met, w.over, w.low = append(w.met, b), append(w.over, over), append(w.low, rank[b])
		for _, next := range to[b] {
			come(next, rank[b])
		}
	}
	come(0, -1)
	w.late = make([][]int, len(w.met))
	for from, b := range w.met {
		for _, next := range to[b] {
			w.goes(from, rank[next])
		}
	}
	return w
}

// goes keeps that one goes from one rank to another one. Of each the lower ones from which one goes to it are told
// ahead of the higher ones.
func (w *walk) goes(from, to int) {
	if from < to {
		w.low[to] = min(w.low[to], from)
	} else if from > to && w.low[to] > 0 {
		// Where block 0 itself goes, no other one can change what is above: none is kept, however many there are.
		w.late[to] = append(w.late[to], from)
	}
}

// lastFirst tells all ranks but block 0's, the last ones first.
func (w *walk) lastFirst() iter.Seq[int] {
	return func(yield func(int) bool) {
		for at := len(w.met) - 1; at > 0; at-- {
			if !yield(at) {
				return
			}
		}
	}
}

// nexts are, of each of n blocks, the next one above it; -1, if there is none.
func (w *walk) nexts(n int) []int {
	out := none(n)
	for at, above := range w.above() {
		if above >= 0 {
			out[w.met[at]] = w.met[above]
		}
	}
	return out
}

// above is by rank the next one above it; of block 0: -1.
//
// Low becomes the lowest one from which a way leads to it over higher ranks alone: that way goes round all that is
// between the two, so none of these is above. If none of these has a lower low, no way goes round low itself: it is
// the next one above. Else the one of them that has the lowest low has the same next one above.
// (Lengauer and Tarjan found this: however the ways go, it takes little longer than going through them.)
func (w *walk) above() []int {
	next := none(len(w.met))
	done := &chains{low: w.low, up: none(len(w.met)), best: make([]int, len(w.met))}
	below := make([][]int, len(w.met)) // by rank: those whose low it is, of which next is not known yet
	for at := range w.lastFirst() {
		done.best[at] = at
		for _, from := range w.late[at] {
			w.low[at] = min(w.low[at], w.low[done.lowest(from)])
		}
		low, over := w.low[at], w.over[at]
		below[low] = append(below[low], at)
		done.up[at] = over
		for _, b := range below[over] {
			next[b] = done.lowest(b)
		}
		below[over] = nil
	}
	for at := range next {
		if at > 0 && w.low[next[at]] < w.low[at] {
			next[at] = next[next[at]]
		} else if at > 0 {
			next[at] = w.low[at]
		}
	}
	return next
}

// chains are the ranks that were gone through, each tied to the one from which one came to it first.
type chains struct {
	low  []int
	up   []int // by rank: one that is over it, as far up as it was asked; -1, if it is not tied
	best []int // by rank: of itself and those on the way to up (but not that one) the one of the lowest low
}

// lowest is the one of the lowest low from a rank up to the last one that is tied.
func (c *chains) lowest(at int) int {
	c.shorten(at)
	return c.best[at]
}

// shorten ties a rank to the one that is not tied, so that the way there need not be gone again.
func (c *chains) shorten(at int) {
	up := c.up[at]
	if up < 0 || c.up[up] < 0 {
		return
	}
	c.shorten(up)
	if c.low[c.best[up]] < c.low[c.best[at]] {
		c.best[at] = c.best[up]
	}
	c.up[at] = c.up[up]
}

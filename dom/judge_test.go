package dom_test

import "slices"

// This file says what the chapter says in other words: what stands on all ways from block 0, the ways told one by one;
// or to which blocks one comes no more, when one block is shut.

// facts are what is above what, block by block.
type facts struct {
	reached []bool
	above   [][]bool // above[a][b]: whether a is above b
	next    []int
	kids    [][]int
	order   []int
}

// byWays tells all ways from block 0 that come to no block twice (what stands on all of these stands on all ways).
func byWays(to [][]int) facts {
	f := facts{reached: make([]bool, len(to)), above: square(len(to))}
	on := make([]bool, len(to))
	var way func(b int)
	way = func(b int) {
		if on[b] {
			return
		}
		on[b] = true
		for a := range to {
			f.above[a][b] = on[a] && (!f.reached[b] || f.above[a][b])
		}
		f.reached[b] = true
		for _, next := range to[b] {
			way(next)
		}
		on[b] = false
	}
	way(0)
	return f.rest()
}

// byShutting asks of each block to which ones one comes no more without it.
func byShutting(to [][]int) facts {
	f := facts{reached: comesTo(to, -1), above: square(len(to))}
	for a := range to {
		open := comesTo(to, a)
		for b := range to {
			f.above[a][b] = f.reached[a] && f.reached[b] && !open[b]
		}
	}
	return f.rest()
}

// comesTo says of each block whether one comes to it from block 0, and not over the one that is shut.
func comesTo(to [][]int, shut int) []bool {
	come := make([]bool, len(to))
	work := []int{0}
	for len(work) > 0 {
		b := work[len(work)-1]
		work = work[:len(work)-1]
		if b != shut && !come[b] {
			come[b] = true
			work = append(work, to[b]...)
		}
	}
	return come
}

func square(n int) [][]bool {
	out := make([][]bool, n)
	for a := range out {
		out[a] = make([]bool, n)
	}
	return out
}

// rest is what follows of what is above what: the next one above a block is above it, and not it, and all others that are so are above
// that one; in Order those come first whose ways down from block 0, by next ones, are less, number by number.
func (f facts) rest() facts {
	n := len(f.reached)
	f.next, f.kids = make([]int, n), make([][]int, n)
	down := make([][]int, n)
	for b := range n {
		f.next[b] = -1
		for a := range n {
			if a != b && f.above[a][b] && f.allAbove(a, b) {
				f.next[b] = a
				f.kids[a] = append(f.kids[a], b)
			}
			if f.above[a][b] {
				down[b] = append(down[b], a)
			}
		}
		// Of two that are above a block, one is above the other one.
		slices.SortFunc(down[b], func(x, y int) int {
			if x != y && f.above[x][y] {
				return -1
			}
			return 1
		})
		if f.reached[b] {
			f.order = append(f.order, b)
		}
	}
	slices.SortFunc(f.order, func(a, b int) int { return slices.Compare(down[a], down[b]) })
	return f
}

// allAbove says whether all that are above b, but b itself, are above a.
func (f facts) allAbove(a, b int) bool {
	for c := range f.above {
		if c != b && f.above[c][b] && !f.above[c][a] {
			return false
		}
	}
	return true
}

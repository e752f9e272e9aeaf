package front_test

import "slices"

// This file says what the chapter says in other words: what is above what is asked by shutting blocks, one by one; then
// the words of a frontier, and of Placed, are asked of each block as they stand.

// comesTo says of each block whether one comes to it from block 0, and not over the one that is shut.
func comesTo(to [][]int, shut int) []bool {
	come := make([]bool, len(to))
	work := []int{0}
	for len(work) > 0 {
		b := work[len(work)-1]
		work = work[:len(work)-1]
		if b != shut && !come[b] {
			come[b] = true
			work = append(work, to[b]...)
		}
	}
	return come
}

// aboves says of each two blocks whether the first one is above the second one.
func aboves(to [][]int) [][]bool {
	reached := comesTo(to, -1)
	out := make([][]bool, len(to))
	for a := range to {
		open := comesTo(to, a)
		for b := range to {
			out[a] = append(out[a], reached[a] && reached[b] && !open[b])
		}
	}
	return out
}

// frontiers are what is in each block's frontier, by the words.
func frontiers(to [][]int) [][]int {
	above := aboves(to)
	out := make([][]int, len(to))
	for b := range to {
		for c := range to {
			if isIn(to, above, c, b) {
				out[b] = append(out[b], c)
			}
		}
	}
	return out
}

// isIn says whether c is in the frontier of b.
func isIn(to [][]int, above [][]bool, c, b int) bool {
	if !above[b][b] || !above[c][c] {
		return false // one of the two is not reached
	}
	for from, l := range to {
		if above[b][from] && slices.Contains(l, c) {
			return !above[b][c] || b == c
		}
	}
	return false
}

// placed is Placed of a set: what the frontiers ask for is added, till they ask for no more.
func placed(front [][]int, set []int) []int {
	out := []int{}
	for more := true; more; {
		more = false
		for b := range front {
			for _, c := range front[b] {
				if (slices.Contains(set, b) || slices.Contains(out, b)) && !slices.Contains(out, c) {
					out = append(out, c)
					more = true
				}
			}
		}
	}
	slices.Sort(out)
	return out
}

// least is Placed of a set by its words: of all sets of blocks that have what is asked for, the one that is in all others.
func least(front [][]int, set []int) []int {
	var out []int
	found := false
	for bits := range 1 << len(front) {
		try := chosen(bits, len(front))
		if !closed(front, set, try) {
			continue
		}
		if !found || len(try) < len(out) {
			out = try
		}
		found = true
	}
	return out
}

// chosen are the numbers whose bits are set.
func chosen(bits, n int) []int {
	var out []int
	for b := range n {
		if bits>>b&1 > 0 {
			out = append(out, b)
		}
	}
	return out
}

// closed says whether some blocks have the frontiers of a set's blocks, and of their own.
func closed(front [][]int, set, try []int) bool {
	for b := range front {
		if !slices.Contains(set, b) && !slices.Contains(try, b) {
			continue
		}
		for _, c := range front[b] {
			if !slices.Contains(try, c) {
				return false
			}
		}
	}
	return true
}

// lasts are, of each block, those that are marked and were left last on some way from block 0 to its begin. All ways
// are gone, of which those that are alike, by where they have come and what was left last, are gone once.
func lasts(to [][]int, marked []int) [][]int {
	out := make([][]int, len(to))
	type spot struct{ block, last int }
	met := map[spot]bool{}
	var walk func(b, last int)
	walk = func(b, last int) {
		if met[spot{b, last}] {
			return
		}
		met[spot{b, last}] = true
		if last >= 0 {
			out[b] = append(out[b], last)
		}
		if slices.Contains(marked, b) {
			last = b
		}
		for _, next := range to[b] {
			walk(next, last)
		}
	}
	walk(0, -1)
	return out
}

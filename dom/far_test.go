package dom_test

import (
	"slices"
	"testing"

	"bobbin/api"
	"bobbin/dom"
)

// row is a graph of n blocks, one behind the other.
func row(n int) [][]int {
	to := make([][]int, n)
	for b := 1; b < n; b++ {
		to[b-1] = blocks(b)
	}
	return to
}

// under are the next ones above of n blocks, each told by a function; block 0 has none.
func under(n int, next func(b int) int) []int {
	out := blocks(-1)
	for b := 1; b < n; b++ {
		out = append(out, next(b))
	}
	return out
}

// The next ones above that many shapes have: the block ahead, and block 0.
func ahead(b int) int { return b - 1 }
func first(int) int   { return 0 }

// known holds all that is asked of a great graph against the next ones above.
func known(t *testing.T, what string, to [][]int, next []int) {
	t.Helper()
	tree := of(t, to)
	kids := make([][]int, len(to))
	for b, above := range next {
		if tree.Next(b) != above || tree.Reached(b) != (b == 0 || above >= 0) {
			t.Fatalf("%s: block %d: next %d, not %d; reached: %v", what, b, tree.Next(b), above, tree.Reached(b))
		}
		if above >= 0 {
			kids[above] = append(kids[above], b)
		}
	}
	var order []int
	for work := blocks(0); len(work) > 0; {
		b := work[len(work)-1]
		order = append(order, b)
		if !slices.Equal(tree.Kids(b), kids[b]) {
			t.Fatalf("%s: kids of %d: %v, not %v", what, b, tree.Kids(b), kids[b])
		}
		slices.Reverse(kids[b])
		work = append(work[:len(work)-1], kids[b]...)
	}
	if !slices.Equal(tree.Order(), order) {
		t.Fatalf("%s: another order", what)
	}
	for a := 0; a < len(to); a += 1 + len(to)/40 {
		over := make([]bool, len(to))
		for _, b := range order {
			over[b] = b == a || b > 0 && over[next[b]]
		}
		for b := range to {
			if tree.Above(a, b) != over[b] {
				t.Fatalf("%s: %d above %d: %v", what, a, b, tree.Above(a, b))
			}
		}
	}
}

// P12.1, P12.2: graphs of as many blocks as there may be, and of one more.
func TestMost(t *testing.T) {
	shapes := map[string]func(n int) ([][]int, []int){
		"one row": func(n int) ([][]int, []int) { return row(n), under(n, ahead) },
		"one great loop": func(n int) ([][]int, []int) {
			to := row(n)
			to[n-1] = blocks(0)
			return to, under(n, ahead)
		},
		"a row, and back by all": func(n int) ([][]int, []int) {
			to := row(n)
			for b := 1; b < n; b++ {
				to[b] = append(to[b], b-1, b/2, b)
			}
			return to, under(n, ahead)
		},
		"a row from the last one on": func(n int) ([][]int, []int) {
			to := make([][]int, n)
			for b := 2; b < n; b++ {
				to[b] = blocks(b - 1)
			}
			to[0] = blocks(n - 1)
			return to, under(n, func(b int) int { return (b + 1) % n })
		},
		"from block 0 to all": func(n int) ([][]int, []int) {
			to := make([][]int, n)
			to[0] = upTo(n)
			return to, under(n, first)
		},
		"from all to the last one": func(n int) ([][]int, []int) {
			to := row(n)
			for b := range n {
				to[b] = append(to[b], n-1)
			}
			next := under(n, ahead)
			next[n-1] = 0
			return to, next
		},
		"nobody goes anywhere": func(n int) ([][]int, []int) {
			return make([][]int, n), under(n, func(int) int { return -1 })
		},
		"a tree of twos": func(n int) ([][]int, []int) {
			to := make([][]int, n)
			for b := 1; b < n; b++ {
				to[(b-1)/2] = append(to[(b-1)/2], b)
			}
			return to, under(n, func(b int) int { return (b - 1) / 2 })
		},
		"one on, and two on": func(n int) ([][]int, []int) {
			to := row(n)
			for b := 2; b < n; b++ {
				to[b-2] = append(to[b-2], b)
			}
			return to, under(n, first)
		},
		"a row both ways, entered at both ends": func(n int) ([][]int, []int) {
			to := row(n)
			for b := 2; b < n; b++ {
				to[b] = append(to[b], b-1)
			}
			to[0] = append(to[0], n-1)
			return to, under(n, first)
		},
		"a long way to many, and a short one": func(n int) ([][]int, []int) {
			to := make([][]int, n)
			copy(to, row(n/2))
			to[n/2-1] = upTo(n)[n/2:]
			to[0] = append(to[0], to[n/2-1]...)
			return to, under(n, func(b int) int {
				if b < n/2 {
					return b - 1
				}
				return 0
			})
		},
	}
	for what, shape := range shapes {
		to, next := shape(most)
		known(t, what, to, next)
		if tree, err := dom.Of(append(to, nil)); tree != nil || err != api.ErrForm {
			t.Errorf("%s, a block more: %v, %v", what, tree, err)
		}
	}
}

// P12.1, P12.2: great graphs in which blocks have other numbers: what is above what goes with them.
func TestMixed(t *testing.T) {
	const n = most
	number := func(b int) int { return b * 12345 % n } // n is a power of 2: no two are the same, and 0 is 0
	back := make([]int, n)
	for b := range n {
		back[number(b)] = b
	}
	to := make([][]int, n)
	// A row of boxes of four: the first one to two, both to the last one, that goes on to the next box, and back to all of its own.
	for b := range n {
		switch b % 4 {
		case 0:
			to[number(b)] = blocks(number(b+2), number(b+1))
		case 1, 2:
			to[number(b)] = blocks(number(b + 3 - b%4))
		case 3:
			to[number(b)] = blocks(number(b-1), number(b-3), number(b-2))
			if b+1 < n {
				to[number(b)] = append(to[number(b)], number(b+1))
			}
		}
	}
	known(t, "boxes", to, under(n, func(b int) int {
		at := back[b]
		if at%4 == 0 {
			return number(at - 1)
		}
		return number(at - at%4)
	}))
}

// P12.1: many blocks, each of which goes to each other one, or to all but one that only block 0 goes to, or to all behind it.
func TestEachToEach(t *testing.T) {
	const n = 1500
	all := upTo(n)
	to := slices.Repeat([][]int{all}, n)
	known(t, "each to each", to, under(n, first))
	to[0] = blocks(n / 2)
	next := under(n, func(int) int { return n / 2 })
	next[n/2] = 0
	known(t, "each to each, behind one", to, next)
	for b := range n {
		to[b] = all[b+1:]
	}
	known(t, "each to all behind it", to, under(n, first))
	for b := range n {
		to[b] = all[:min(n, b+2)]
	}
	known(t, "each to all ahead of it, and one behind it", to, under(n, ahead))
}

// Limits: as many blocks as there may be, all of which share one list of some hundred ways: each call ends soon.
func TestShared(t *testing.T) {
	to := slices.Repeat([][]int{upTo(most)[most-500:]}, most)
	next := under(most, func(b int) int {
		if b < most-500 {
			return -1
		}
		return 0
	})
	known(t, "one list", to, next)
	to[0] = []int{7}
	for b := range next {
		if next[b] == 0 {
			next[b] = 7
		}
	}
	next[7] = 0
	known(t, "one list, behind one", to, next)
}

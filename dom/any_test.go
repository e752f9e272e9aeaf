package dom_test

import (
	"fmt"
	"slices"
	"testing"

	"bobbin/dom"
)

// P12.1, P12.2: all graphs of up to four blocks, against all ways.
func TestAllSmall(t *testing.T) {
	for n := 1; n <= 4; n++ {
		for bits := range 1 << (n * n) {
			to := make([][]int, n)
			for way := range n * n {
				if bits>>way&1 > 0 {
					to[way/n] = append(to[way/n], way%n)
				}
			}
			held(t, to, byWays(to))
		}
	}
}

// P12.1, P12.2: each seventh graph of five blocks, each of which goes to two at most, as those of programs do.
func TestManySmall(t *testing.T) {
	var ways [][]int
	for a := range 5 {
		ways = append(ways, blocks(a))
		for b := range a {
			ways = append(ways, blocks(b, a))
		}
	}
	ways = append(ways, nil)
	kinds := len(ways)
	for n := 0; n < kinds*kinds*kinds*kinds*kinds; n += 7 {
		to := make([][]int, 5)
		for b, left := 0, n; b < 5; b++ {
			to[b] = ways[left%kinds]
			left /= kinds
		}
		held(t, to, byWays(to))
	}
}

// P12.1 to P12.3, P12.5, P12.6: many made graphs, against all ways, and against what is shut; the two say the same.
func TestAnyGraph(t *testing.T) {
	m := &maker{seed: 1}
	left, deep, least := 0, 0, 0
	for range 6000 {
		to := m.any(10)
		want := byWays(to)
		if other := byShutting(to); fmt.Sprint(other) != fmt.Sprint(want) {
			t.Fatalf("of %v: %v and %v", to, want, other)
		}
		tree := held(t, to, want)
		laws(t, to, tree)
		if slices.Contains(want.reached, false) {
			left++
		}
		if len(want.order) > 6 {
			deep++
		}
		if !slices.IsSorted(want.order) {
			least++
		}
	}
	if left < 1000 || deep < 500 || least < 500 {
		t.Error("graphs with blocks that are not reached, of many that are, of an order that does not rise:", left, deep, least)
	}
}

// P12.1 to P12.3, P12.5, P12.6: made graphs of more blocks, against what is shut.
func TestAnyGreat(t *testing.T) {
	m := &maker{seed: 2}
	for range 300 {
		to := m.any(90)
		laws(t, to, held(t, to, byShutting(to)))
		to = m.near(60)
		laws(t, to, held(t, to, byShutting(to)))
		to = m.mixed(to)
		laws(t, to, held(t, to, byShutting(to)))
	}
}

// laws asks of a tree what follows.
func laws(t *testing.T, to [][]int, tree *dom.Tree) {
	t.Helper()
	order := tree.Order()
	count, parents := make([]int, len(to)), make([]int, len(to))
	for _, b := range order {
		count[b]++
	}
	for a := range to {
		for _, kid := range tree.Kids(a) {
			parents[kid]++
			if tree.Next(kid) != a {
				t.Fatalf("%d is a kid of %d: %v", kid, a, to)
			}
		}
	}
	for b := range to {
		reached, kid := 0, 0
		if tree.Reached(b) {
			reached = 1
			kid = min(b, 1)
			comesUp(t, to, tree, b)
		}
		if count[b] != reached || parents[b] != kid {
			t.Fatalf("block %d: %d times in the order, kid of %d: %v", b, count[b], parents[b], to)
		}
	}
	for _, b := range order {
		for _, a := range order {
			chained(t, to, tree, a, b)
		}
	}
	if len(order) == 0 || order[0] != 0 || !tree.Reached(0) || tree.Next(0) != -1 {
		t.Fatalf("order %v: %v", order, to)
	}
}

// comesUp asks that from a block, Next by Next, one comes to block 0 over all that are above it, and over no other ones.
func comesUp(t *testing.T, to [][]int, tree *dom.Tree, b int) {
	t.Helper()
	over := make([]bool, len(to))
	for at, steps := b, 0; at >= 0; at, steps = tree.Next(at), steps+1 {
		if steps > len(to) {
			t.Fatalf("from %d one comes nowhere: %v", b, to)
		}
		over[at] = true
	}
	for a := range to {
		if tree.Above(a, b) != over[a] {
			t.Fatalf("%d above %d: %v, %v: %v", a, b, tree.Above(a, b), over[a], to)
		}
	}
	if !over[0] || !tree.Above(b, b) || !tree.Above(0, b) {
		t.Fatalf("above %d: %v: %v", b, over, to)
	}
}

// chained asks of two that are reached: what is above what is above a block is above it; of two that are above it one is above the other one.
func chained(t *testing.T, to [][]int, tree *dom.Tree, a, b int) {
	t.Helper()
	if !tree.Above(a, b) {
		return
	}
	if a != b && tree.Above(b, a) {
		t.Fatalf("%d and %d above one another: %v", a, b, to)
	}
	for c := range to {
		if tree.Above(c, a) && !tree.Above(c, b) {
			t.Fatalf("%d above %d, above %d: %v", c, a, b, to)
		}
		if tree.Above(c, b) && !tree.Above(c, a) && !tree.Above(a, c) {
			t.Fatalf("%d and %d above %d: %v", a, c, b, to)
		}
	}
}

// P12.4: with any way less, what was above stays above, of those that are reached still; no block is reached that was not.
func TestLess(t *testing.T) {
	m := &maker{seed: 3}
	fewer, more := 0, 0
	for range 1500 {
		to := m.any(12)
		tree := of(t, to)
		for b, l := range to {
			for at := range l {
				less := clone(to)
				less[b] = slices.Delete(less[b], at, at+1)
				other := held(t, less, byShutting(less))
				for x := range to {
					if other.Reached(x) && !tree.Reached(x) {
						t.Fatalf("%d is reached, without %d to %d: %v", x, b, l[at], to)
					}
					if tree.Reached(x) && !other.Reached(x) {
						fewer++
					}
					for y := range to {
						if tree.Above(x, y) && other.Reached(x) && other.Reached(y) && !other.Above(x, y) {
							t.Fatalf("%d was above %d, without %d to %d: %v", x, y, b, l[at], to)
						}
						if other.Above(x, y) && !tree.Above(x, y) {
							more++
						}
					}
				}
			}
		}
	}
	if fewer < 1000 || more < 1000 {
		t.Error("blocks that were reached no more, and such that were above more:", fewer, more)
	}
}

// R2, P12.1, P12.2: in whatever row, and however often, a block's ways are told; blocks that are not reached, wherever they go.
func TestAsASet(t *testing.T) {
	m := &maker{seed: 4}
	for range 2000 {
		to := m.any(12)
		want := told(of(t, to), len(to))
		other := clone(to)
		for b, l := range other {
			for range m.next(4) * min(1, len(l)) {
				other[b] = append(other[b], l[m.next(len(l))])
			}
			m.mix(other[b])
		}
		if got := told(of(t, other), len(to)); got != want {
			t.Fatalf("of %v and %v: %s and %s", to, other, want, got)
		}
		wider := append(clone(to), upTo(len(to)+2), m.wild(len(to), 5)[0])
		if got := told(of(t, wider), len(to)); got != want {
			t.Fatalf("of %v and %v: %s and %s", to, wider, want, got)
		}
	}
}

package dom_test

import (
	"fmt"
	"slices"
	"sync"
	"testing"
)

// roomy is a graph with something else in the room behind each end, that shares nothing with it.
func roomy(to [][]int) [][]int {
	out := append(slices.Clone(to), []int{-5})[:len(to)]
	for b, l := range out {
		out[b] = append(slices.Clone(l), -5, 1<<40)[:len(l)]
	}
	return out
}

// whole is a graph with the room behind each end.
func whole(to [][]int) [][]int {
	out := slices.Clone(to[:cap(to)])
	for b, l := range out {
		out[b] = l[:cap(l)]
	}
	return out
}

// mark writes a number into a list and the room behind its end.
func mark(l []int, n int) {
	l = l[:cap(l)]
	for at := range l {
		l[at] = n
	}
}

// R3, P12.1: what is handed in is not changed, not kept, and not read behind its end.
func TestHandedIn(t *testing.T) {
	m := &maker{seed: 5}
	for range 500 {
		to := m.any(12)
		want := fmt.Sprint(byShutting(to))
		given := roomy(to)
		tree := of(t, given)
		if got, before := fmt.Sprint(whole(given)), fmt.Sprint(whole(roomy(to))); got != before {
			t.Fatalf("%s became %s", before, got)
		}
		for _, l := range given {
			mark(l, 0)
		}
		clear(given[:cap(given)])
		if got := told(tree, len(to)); got != want {
			t.Fatalf("of %v, once it was written over: %s, not %s", to, got, want)
		}
	}
}

// R3, P12.2: what is handed out is new each time, its room too.
func TestHandedOut(t *testing.T) {
	m := &maker{seed: 6}
	for range 500 {
		to := m.any(12)
		want := fmt.Sprint(byShutting(to))
		tree, other := of(t, to), of(t, to)
		var all [][]int
		for b := range to {
			all = append(all, tree.Kids(b), tree.Kids(b), tree.Order())
		}
		for n, l := range all {
			mark(l, n)
		}
		for n, l := range all {
			for _, have := range l[:cap(l)] {
				if have != n {
					t.Fatalf("a list of its own: %d, not %d: %v", have, n, to)
				}
			}
		}
		if got := told(tree, len(to)); got != want {
			t.Fatalf("of %v, once it was written over: %s, not %s", to, got, want)
		}
		if got := told(other, len(to)); got != want {
			t.Fatalf("of %v, another one: %s, not %s", to, got, want)
		}
	}
}

// R2: the same graph asked twice, in between others, and by many at a time: the same answers; trees do not see one another.
func TestTwice(t *testing.T) {
	m := &maker{seed: 7}
	var graphs [][][]int
	var trees []string
	for range 200 {
		to := m.any(15)
		graphs = append(graphs, to)
		tree := of(t, to)
		trees = append(trees, told(tree, len(to)))
		for range 3 {
			tree.Kids(m.next(20))
			tree.Order()
			tree.Next(m.next(20))
		}
		if got := told(tree, len(to)); got != trees[len(trees)-1] {
			t.Fatalf("of %v, asked again: %s, not %s", to, got, trees[len(trees)-1])
		}
	}
	var all sync.WaitGroup
	for n, to := range graphs {
		tree := of(t, to)
		for range 2 {
			all.Go(func() {
				if got := told(tree, len(to)); got != trees[n] {
					t.Errorf("of %v, once more: %s, not %s", to, got, trees[n])
				}
			})
		}
	}
	all.Wait()
}

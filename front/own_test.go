package front_test

import (
	"fmt"
	"slices"
	"sync"
	"testing"

	"bobbin/front"
)

// roomy is a list with something else in the room behind its end.
func roomy(l []int) []int { return append(slices.Clone(l), -5, 1<<40, 0, 1)[:len(l)] }

// roomyAll is a graph with something else in the room behind each end, that shares nothing with it.
func roomyAll(to [][]int) [][]int {
	out := append(slices.Clone(to), []int{-5})[:len(to)]
	for b, l := range out {
		out[b] = roomy(l)
	}
	return out
}

// whole is a graph with the room behind each end.
func whole(to [][]int) [][]int {
	out := slices.Clone(to[:cap(to)])
	for b, l := range out {
		out[b] = l[:cap(l)]
	}
	return out
}

// mark writes a number into a list and the room behind its end.
func mark(l []int, n int) {
	l = l[:cap(l)]
	for at := range l {
		l[at] = n
	}
}

// R3, P13.1, P13.2: what is handed in is not changed, not kept, and not read behind its end.
func TestHandedIn(t *testing.T) {
	m := &maker{seed: 7}
	for range 1000 {
		to := m.any(12)
		set := m.some(len(to))
		fronts := frontiers(to)
		given, asked := roomyAll(to), roomy(set)
		got, placing := front.Of(given), front.Placed(given, asked)
		if now, before := fmt.Sprint(whole(given), asked[:cap(asked)]), fmt.Sprint(whole(roomyAll(to)), roomy(set)[:cap(roomy(set))]); now != before {
			t.Fatalf("%s became %s", before, now)
		}
		for _, l := range given {
			mark(l, 0)
		}
		clear(given[:cap(given)])
		mark(asked, 0)
		if !same(got, fronts) || !slices.Equal(placing, placed(fronts, set)) {
			t.Fatalf("of %v, once it was written over: %v; placed of %v: %v", to, got, set, placing)
		}
	}
}

// R3, P13.1, P13.2: what is handed out is new each time, its room too, and no two lists share any.
func TestHandedOut(t *testing.T) {
	m := &maker{seed: 8}
	for range 1000 {
		to := m.any(12)
		set := m.some(len(to))
		fronts := frontiers(to)
		var all [][]int
		for range 2 {
			got := front.Of(to)
			all = append(append(all, got[:cap(got)]...), front.Placed(to, set))
		}
		for n, l := range all {
			mark(l, n)
		}
		for n, l := range all {
			for _, have := range l[:cap(l)] {
				if have != n {
					t.Fatalf("a list of its own: %d, not %d: %v", have, n, to)
				}
			}
		}
		if got := front.Of(to); !same(got, fronts) {
			t.Fatalf("of %v, once it was written over: %v, not %v", to, got, fronts)
		}
		places(t, to, fronts, set)
	}
}

// R2: the same graph asked twice, in between others, and by many at a time: the same answers.
func TestTwice(t *testing.T) {
	m := &maker{seed: 9}
	var all sync.WaitGroup
	for range 300 {
		to := m.any(15)
		set := m.some(len(to))
		fronts, want := front.Of(to), front.Placed(to, set)
		for range 2 {
			all.Go(func() {
				if got, placing := front.Of(to), front.Placed(to, set); !same(got, fronts) || !slices.Equal(placing, want) {
					t.Errorf("of %v, once more: %v, not %v; placed of %v: %v, not %v", to, got, fronts, set, placing, want)
				}
			})
		}
	}
	all.Wait()
}

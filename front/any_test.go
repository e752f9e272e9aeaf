package front_test

import (
	"slices"
	"testing"

	"bobbin/front"
)

// P13.1 to P13.6: all graphs of up to three blocks with all their sets, and all graphs of four blocks, with some.
func TestAllSmall(t *testing.T) {
	m := &maker{seed: 1}
	for n := 1; n <= 4; n++ {
		for bits := range 1 << (n * n) {
			to := make([][]int, n)
			for way := range n * n {
				if bits>>way&1 > 0 {
					to[way/n] = append(to[way/n], way%n)
				}
			}
			fronts := held(t, to)
			fromTwo(t, to, fronts)
			for set := range 1 << n {
				if n < 4 || m.next(8) == 0 {
					lawful(t, m, to, fronts, chosen(set, n))
				}
			}
		}
	}
}

// lawful asks of a set what Placed of it is, and what follows.
func lawful(t *testing.T, m *maker, to, fronts [][]int, set []int) []int {
	t.Helper()
	got := places(t, to, fronts, set)
	if len(to) < 6 {
		if want := least(fronts, set); !slices.Equal(got, want) {
			t.Fatalf("of %v, placed of %v: %v, the least one is %v", to, set, got, want)
		}
	}
	oneLast(t, to, set, got)
	both := append(slices.Clone(set), got...)
	if again := front.Placed(to, both); !slices.Equal(again, got) {
		t.Fatalf("of %v, placed of %v: %v, of both: %v", to, set, got, again)
	}
	less := slices.Clone(set)
	for len(less) > 0 {
		at := m.next(len(less))
		less = slices.Delete(less, at, at+1)
		for _, b := range front.Placed(to, less) {
			if !slices.Contains(got, b) {
				t.Fatalf("of %v: %d is placed of %v, not of %v", to, b, less, set)
			}
		}
	}
	return got
}

// oneLast asks that to each block that is reached, and not placed, one comes with one last marked block.
func oneLast(t *testing.T, to [][]int, set, got []int) {
	t.Helper()
	marked := append(append([]int{0}, set...), got...)
	for b, last := range lasts(to, marked) {
		if len(last) > 1 && !slices.Contains(got, b) {
			t.Fatalf("of %v, placed of %v: %v; to %d one comes with %v", to, set, got, b, last)
		}
	}
}

// fromTwo asks that to each block in a frontier one comes from two that are reached, or that it is block 0.
func fromTwo(t *testing.T, to, fronts [][]int) {
	t.Helper()
	reached := comesTo(to, -1)
	count := make([]int, len(to))
	for a, l := range to {
		for b := range to {
			if reached[a] && slices.Contains(l, b) {
				count[b]++
			}
		}
	}
	for _, l := range fronts {
		for _, b := range l {
			if b > 0 && count[b] < 2 {
				t.Fatalf("of %v: to %d one comes from %d", to, b, count[b])
			}
		}
	}
}

// P13.1 to P13.6: many made graphs, with made sets.
func TestAnyGraph(t *testing.T) {
	m := &maker{seed: 2}
	many, first, deep := 0, 0, 0
	for range 4000 {
		to := m.any(12)
		fronts := held(t, to)
		fromTwo(t, to, fronts)
		for range 3 {
			set := m.some(len(to))
			if len(set) > 3 {
				set = set[:1+m.next(3)]
			}
			got := lawful(t, m, to, fronts, set)
			asked := 0
			for _, b := range got {
				if !slices.ContainsFunc(set, func(a int) bool { return slices.Contains(fronts[a], b) }) {
					asked++
				}
			}
			many += min(1, len(got)/4)
			deep += min(1, asked/2)
			if slices.Contains(got, 0) {
				first++
			}
		}
	}
	if many < 200 || first < 1000 || deep < 150 {
		t.Error("sets of which many are placed, and block 0, and what is placed asks for more:", many, first, deep)
	}
}

// P13.1 to P13.3, P13.5: made graphs of more blocks.
func TestAnyGreat(t *testing.T) {
	m := &maker{seed: 3}
	for range 150 {
		for _, to := range [][][]int{m.any(80), m.near(60), m.mixed(m.near(60))} {
			fronts := held(t, to)
			fromTwo(t, to, fronts)
			for range 4 {
				set := m.some(len(to))
				oneLast(t, to, set, places(t, to, fronts, set))
				few := set[:min(len(set), 1+m.next(4))]
				oneLast(t, to, few, places(t, to, fronts, few))
			}
		}
	}
}

// P13.4: Placed of none is none; of all blocks it is not less than of any.
func TestNone(t *testing.T) {
	m := &maker{seed: 4}
	for range 1000 {
		to := m.any(12)
		if got := front.Placed(to, nil); len(got) > 0 {
			t.Fatalf("of %v, placed of none: %v", to, got)
		}
		all := front.Placed(to, upTo(len(to)))
		var some []int
		for _, l := range front.Of(to) {
			some = append(some, l...)
		}
		slices.Sort(some)
		if !slices.Equal(all, slices.Compact(some)) {
			t.Fatalf("of %v, placed of all: %v, not %v", to, all, some)
		}
	}
}

// R2, P13.6: in whatever row, and however often, a set's blocks, and a block's ways, are told, and with numbers that are no blocks.
func TestAsASet(t *testing.T) {
	m := &maker{seed: 5}
	for range 2000 {
		to := m.any(12)
		set := m.some(len(to))
		fronts, want := front.Of(to), front.Placed(to, set)
		other := clone(to)
		for b, l := range other {
			other[b] = m.again(l)
		}
		if got := front.Of(other); !same(got, fronts) {
			t.Fatalf("of %v and %v: %v and %v", to, other, fronts, got)
		}
		told := append(m.again(set), far(len(to))[m.next(15)])
		m.mix(told)
		if got := front.Placed(other, told); !slices.Equal(got, want) {
			t.Fatalf("of %v, placed of %v and %v: %v and %v", to, set, told, want, got)
		}
	}
}

// P13.7: a block more, to which no other one goes, at each place behind block 0, wherever it goes.
func TestMore(t *testing.T) {
	m := &maker{seed: 6}
	for range 400 {
		to := m.any(10)
		fronts := front.Of(to)
		for place := 1; place <= len(to); place++ {
			number := func(b int) int {
				if b >= place {
					return b + 1
				}
				return b
			}
			wider, want := renumbered(to, number), renumbered(fronts, number)
			wider = slices.Insert(wider, place, m.some(len(to)+1))
			want = slices.Insert(want, place, nil)
			if got := front.Of(wider); !same(got, want) {
				t.Fatalf("of %v: %v, not %v", wider, got, want)
			}
			set := m.some(len(to))
			out := renumbered([][]int{set, front.Placed(to, set)}, number)
			if got := front.Placed(wider, append(out[0], place)); !slices.Equal(got, out[1]) {
				t.Fatalf("of %v, placed of %v: %v, not %v", wider, out[0], got, out[1])
			}
		}
	}
}

// renumbered are lists whose numbers became other ones.
func renumbered(l [][]int, number func(int) int) [][]int {
	out := clone(l)
	for _, l := range out {
		for at := range l {
			l[at] = number(l[at])
		}
	}
	return out
}

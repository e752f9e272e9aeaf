package front_test

import (
	"slices"
	"testing"

	"bobbin/front"
)

// row is a graph of n blocks, one behind the other.
func row(n int) [][]int {
	to := make([][]int, n)
	for b := 1; b < n; b++ {
		to[b-1] = blocks(b)
	}
	return to
}

// each are n lists, each told by a function.
func each(n int, l func(b int) []int) [][]int {
	var out [][]int
	for b := range n {
		out = append(out, l(b))
	}
	return out
}

// great is a graph of as many blocks as there may be, with what is known of it.
type great struct {
	to    [][]int
	front func(b int) []int // what is in the frontier of each block
	sets  [][]int
	want  [][]int // Placed of each of the sets
}

func noFront(int) []int { return nil }

// oneGreatLoop is a row whose last block goes to block 0.
func oneGreatLoop() great {
	to := row(most)
	to[most-1] = blocks(0)
	return great{to, func(int) []int { return blocks(0) }, [][]int{{0}, {most - 1}, {most, -1}}, [][]int{{0}, {0}, nil}}
}

// toThemselves is a row of blocks that go to themselves, too.
func toThemselves() great {
	to := row(most)
	for b := range to {
		to[b] = append(to[b], b)
	}
	return great{to, func(b int) []int { return blocks(b) }, [][]int{{7, 5}, upTo(most)}, [][]int{{5, 7}, upTo(most)}}
}

// allToLast is a graph in which block 0 goes to all others, and these to the last one.
func allToLast() great {
	to := each(most, func(int) []int { return blocks(most - 1) })
	to[0], to[most-1] = upTo(most)[1:], nil
	front := func(b int) []int {
		if b == 0 || b == most-1 {
			return nil
		}
		return blocks(most - 1)
	}
	return great{to, front, [][]int{{0}, {1}, {most - 1}}, [][]int{nil, {most - 1}, nil}}
}

// byTwos is a row, in which each block goes to the one behind the next one, too.
func byTwos() great {
	to := row(most)
	for b := 2; b < most; b++ {
		to[b-2] = append(to[b-2], b)
	}
	// To block 1 one comes from block 0 alone; each other one is in the frontiers of the two ahead of it.
	front := func(b int) []int {
		if b == 0 {
			return nil
		}
		return to[b]
	}
	return great{to, front, [][]int{{1}, {most / 2}}, [][]int{upTo(most)[2:], upTo(most)[most/2+1:]}}
}

// P13.1, P13.2: graphs of as many blocks as there may be, and of one more.
func TestMost(t *testing.T) {
	for what, x := range map[string]great{
		"one row":              {row(most), noFront, [][]int{{most - 1}, upTo(most)}, [][]int{nil, nil}},
		"nobody goes anywhere": {make([][]int, most), noFront, [][]int{upTo(most)}, [][]int{nil}},
		"one great loop":       oneGreatLoop(),
		"to themselves":        toThemselves(),
		"all to the last one":  allToLast(),
		"by twos":              byTwos(),
	} {
		if got := front.Of(x.to); !same(got, each(most, x.front)) {
			t.Errorf("%s: other frontiers", what)
		}
		for n, set := range x.sets {
			if got := front.Placed(x.to, set); !slices.Equal(got, x.want[n]) {
				t.Errorf("%s: placed of %d: %d, not %d", what, len(set), len(got), len(x.want[n]))
			}
		}
		nothing(t, append(x.to, nil))
	}
}

// P13.2: where frontiers would be more than there is room for, Placed ends soon: each block goes on to the next one, the
// last one to all others; or each goes back by one, and the last one to block 0.
func TestMany(t *testing.T) {
	to := row(most)
	to[most-1] = upTo(most)
	for _, set := range [][]int{{0}, {1}, {most - 1}, {most / 2, 3}, upTo(most)} {
		deepest := slices.Max(set)
		want := upTo(most) // what is placed asks for all that is ahead of it, and the deepest one is placed
		if got := front.Placed(to, set); !slices.Equal(got, want[:deepest+1]) {
			t.Errorf("placed of %d: %d, not %d", len(set), len(got), deepest+1)
		}
	}
	to = row(most)
	for b := 1; b < most; b++ {
		to[b] = append(to[b], b-1)
	}
	if got := front.Placed(to, blocks(most-1)); !slices.Equal(got, upTo(most)[:most-1]) {
		t.Errorf("each back by one: %d", len(got))
	}
}

// P13.1, P13.2: many blocks, each of which goes to each one.
func TestEachToEach(t *testing.T) {
	const n = 1200
	all := upTo(n)
	to := slices.Repeat([][]int{all}, n)
	want := slices.Repeat([][]int{all}, n)
	want[0] = blocks(0)
	if got := front.Of(to); !same(got, want) {
		t.Error("each to each: other frontiers")
	}
	if got := front.Placed(to, blocks(n/2)); !slices.Equal(got, all) {
		t.Error("each to each: placed:", len(got))
	}
	if got := front.Placed(to, blocks(0)); !slices.Equal(got, blocks(0)) {
		t.Error("each to each: placed of block 0:", len(got))
	}
}

// P13.1: frontiers of many blocks each, in rows of loops within loops.
func TestDeepLoops(t *testing.T) {
	const n = 3000
	to := row(n)
	for b := n / 2; b < n; b++ {
		to[b] = append(to[b], n-1-b)
	}
	// Block n-1-b is gone back to from b: so it is in the frontiers of all from itself on to b.
	want := each(n, func(b int) []int { return upTo(n)[:min(b, n-1-b)+1] })
	if got := front.Of(to); !same(got, want) {
		t.Error("loops within loops: other frontiers")
	}
	if got := front.Placed(to, blocks(n/2)); !slices.Equal(got, upTo(n)[:n/2]) {
		t.Error("loops within loops: placed:", len(got))
	}
}

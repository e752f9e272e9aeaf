package front_test

import (
	"fmt"
	"math"
	"slices"
	"testing"

	"bobbin/api"
	"bobbin/front"
)

// most is how many blocks a graph may have.
const most = 2 * api.MaxIns

func blocks(l ...int) []int { return l }

// same says whether two lists of lists are the same, empty ones being alike.
func same(a, b [][]int) bool {
	return slices.EqualFunc(a, b, func(x, y []int) bool { return slices.Equal(x, y) })
}

// held holds the frontiers of a graph against the words.
func held(t *testing.T, to [][]int) [][]int {
	t.Helper()
	want := frontiers(to)
	if got := front.Of(to); !same(got, want) {
		t.Fatalf("of %v: %v, not %v", to, got, want)
	}
	return want
}

// places holds Placed of a set against the words.
func places(t *testing.T, to, fronts [][]int, set []int) []int {
	t.Helper()
	want := placed(fronts, set)
	if got := front.Placed(to, set); !slices.Equal(got, want) {
		t.Fatalf("of %v, placed of %v: %v, not %v", to, set, got, want)
	}
	return want
}

// P13.1, P13.2: the chapter's examples.
func TestExamples(t *testing.T) {
	to := [][]int{{1, 2}, {3}, {3}, {}}
	if got := front.Of(to); !same(got, [][]int{nil, {3}, {3}, nil}) {
		t.Error("0 to 1 and 2, both to 3:", got)
	}
	if got := front.Placed(to, blocks(1)); !slices.Equal(got, blocks(3)) {
		t.Error("0 to 1 and 2, both to 3: placed of 1:", got)
	}
	to = [][]int{{1}, {2, 3}, {1}, nil}
	if got := front.Of(to); !same(got, [][]int{nil, {1}, {1}, nil}) {
		t.Error("0 to 1, 1 to 2 and 3, 2 to 1:", got)
	}
	if got := front.Placed(to, blocks(2)); !slices.Equal(got, blocks(1)) {
		t.Error("0 to 1, 1 to 2 and 3, 2 to 1: placed of 2:", got)
	}
}

// shapes are graphs of each shape, with their frontiers.
func shapes() []struct {
	what   string
	to     [][]int
	fronts [][]int
} {
	return []struct {
		what   string
		to     [][]int
		fronts [][]int
	}{
		{"one block", [][]int{nil}, [][]int{nil}},
		{"one block that goes to itself", [][]int{{0}}, [][]int{{0}}},
		{"one block that goes to itself twice", [][]int{{0, 0}}, [][]int{{0}}},
		{"a row", [][]int{{1}, {2}, {3}, nil}, [][]int{nil, nil, nil, nil}},
		{"a row whose end goes to block 0", [][]int{{1}, {2}, {0}}, [][]int{{0}, {0}, {0}}},
		{"a block that goes to itself", [][]int{{1}, {1, 2}, nil}, [][]int{nil, {1}, nil}},
		{"a row of blocks that go to themselves", [][]int{{0, 1}, {2, 1}, {2}}, [][]int{{0}, {1}, {2}}},
		{"a tree", [][]int{{4, 1}, {3, 2}, nil, nil, {6, 5}, nil, nil}, make([][]int, 7)},
		{"a loop", [][]int{{1}, {2, 3}, {1}, nil}, [][]int{nil, {1}, {1}, nil}},
		{"a loop of other numbers", [][]int{{3}, nil, {3}, {2, 1}}, [][]int{nil, nil, {3}, {3}}},
		{"a loop in a loop", [][]int{{1}, {2, 5}, {3, 4}, {2}, {1}, nil}, [][]int{nil, {1}, {1, 2}, {2}, {1}, nil}},
		{"two loops that share a block", [][]int{{1}, {2, 3}, {1}, {4}, {1, 5}, nil}, [][]int{nil, {1}, {1}, {1}, {1}, nil}},
		{"two loops that share block 0", [][]int{{1, 2}, {0}, {3}, {0}}, [][]int{{0}, {0}, {0}, {0}}},
		{"a way into a loop's middle", [][]int{{1, 2}, {3}, {4}, {2}, {1, 5}, nil}, [][]int{nil, {2}, {1}, {2}, {1}, nil}},
		{"two ways into a loop", [][]int{{1, 2}, {2}, {1}}, [][]int{nil, {2}, {1}}},
		{"a way into the inner one of two loops", [][]int{{1}, {2, 3}, {3}, {4}, {3, 5}, {1, 6}, nil}, [][]int{nil, {1}, {3}, {1, 3}, {1, 3}, {1}, nil}},
		{"each to each other one", [][]int{{1, 2, 3}, {0, 2, 3}, {0, 1, 3}, {0, 1, 2}}, [][]int{{0}, {0, 2, 3}, {0, 1, 3}, {0, 1, 2}}},
		{"each to each one", [][]int{{0, 1, 2}, {2, 1, 0}, {1, 0, 2}}, [][]int{{0}, {0, 1, 2}, {0, 1, 2}}},
		{"twice to one block, from one alone", [][]int{{1, 1}, {2, 2}, nil}, [][]int{nil, nil, nil}},
		{"twice to one block, from two", [][]int{{1, 2}, {3, 3}, {3, 3, 3}, nil}, [][]int{nil, {3}, {3}, nil}},
		{"ways that come together, twice", [][]int{{1, 2}, {3}, {3}, {4, 5}, {6}, {6}, nil}, [][]int{nil, {3}, {3}, nil, {6}, {6}, nil}},
		{"ways that come together within others", [][]int{{1, 5}, {2, 3}, {4}, {4}, {6}, {6}, nil}, [][]int{nil, {6}, {4}, {4}, {6}, {6}, nil}},
		{"a way round a block", [][]int{{1, 2}, {2}, nil}, [][]int{nil, {2}, nil}},
		{"ways to more than one, out of order", [][]int{{5, 1}, {5, 3, 2, 4}, nil, {2}, {3}, {4, 2}}, [][]int{nil, {2, 3, 4, 5}, nil, {2}, {3}, {2, 4}}},
		{"what is not reached goes to what is", [][]int{{2}, {2, 3}, {3}, nil, {1, 0}}, make([][]int, 5)},
		{"what is not reached goes to itself, to one another and to block 0", [][]int{{3}, {2, 1, 0}, {1, 3}, nil}, make([][]int, 4)},
		{"nobody goes anywhere", [][]int{nil, nil, nil}, make([][]int, 3)},
	}
}

// P13.1, P13.2: graphs of each shape, with each set of their blocks.
func TestShapes(t *testing.T) {
	for _, x := range shapes() {
		fronts := held(t, x.to)
		if !same(fronts, x.fronts) {
			t.Errorf("%s: %v, not %v", x.what, fronts, x.fronts)
		}
		for bits := range 1 << len(x.to) {
			set := chosen(bits, len(x.to))
			if got, want := places(t, x.to, fronts, set), least(fronts, set); !slices.Equal(got, want) {
				t.Fatalf("%s: placed of %v: %v, the least one is %v", x.what, set, got, want)
			}
		}
	}
}

// P13.2: what is placed in graphs of each shape, where one placing asks for others.
func TestPlaced(t *testing.T) {
	for _, x := range []struct {
		what      string
		to        [][]int
		set, want []int
	}{
		{"one block", [][]int{nil}, blocks(0), nil},
		{"one block that goes to itself", [][]int{{0}}, blocks(0), blocks(0)},
		{"none", [][]int{{0, 1}, {1, 0}}, nil, nil},
		{"block 0 alone", [][]int{{1, 2}, {3}, {3}, nil}, blocks(0), nil},
		{"block 0 alone, to which others go", [][]int{{1, 2}, {3}, {3}, {0}}, blocks(0), blocks(0)},
		{"block 0 is placed, and asks for no more", [][]int{{1, 2}, {3}, {3}, {0}}, blocks(3), blocks(0)},
		{"one after the other", [][]int{{1, 5}, {2, 3}, {4}, {4}, {6}, {6}, nil}, blocks(2), blocks(4, 6)},
		{"down a row of ways that come together", [][]int{{1, 3}, {2}, {3, 4}, {4, 5}, {5, 6}, {6}, nil}, blocks(1), blocks(3, 4, 5, 6)},
		{"round a loop, and out of it", [][]int{{1, 4}, {2, 4}, {3}, {1}, nil}, blocks(2), blocks(1, 4)},
		{"one that is not as deep asks for one that is as deep", [][]int{{1}, {2, 3}, {3}, {4, 2}, {1}}, blocks(2), blocks(1, 2, 3)},
		{"all blocks", [][]int{{1}, {2, 5}, {3, 4}, {2}, {1}, nil}, blocks(0, 1, 2, 3, 4, 5), blocks(1, 2)},
		{"what is not reached", [][]int{{1, 2}, {3}, {3}, nil, {3, 1, 4}, {4}}, blocks(4, 5), nil},
		{"what is not reached, with what is", [][]int{{1, 2}, {3}, {3}, nil, {3, 1, 4}, {4}}, blocks(5, 1, 4), blocks(3)},
	} {
		if got := places(t, x.to, frontiers(x.to), x.set); !slices.Equal(got, x.want) {
			t.Errorf("%s: %v, not %v", x.what, got, x.want)
		}
	}
}

// far are numbers that are none of n blocks; among them those that are near by, and those that go round.
func far(n int) []int {
	return blocks(-1, -2, -n, n, n+1, 2*n, most, math.MinInt, math.MinInt+1, math.MaxInt, math.MaxInt-1, 1<<32, -1<<32, math.MinInt32, math.MaxInt32)
}

// P13.2, P13.6: numbers that are no blocks count for nothing, alone and among others.
func TestNumbers(t *testing.T) {
	to := [][]int{{1}, {2, 3}, {1}, {4, 5}, {3}, nil, {1, 6}}
	fronts := held(t, to)
	if got := front.Placed(to, far(len(to))); len(got) > 0 {
		t.Fatal("numbers that are no blocks:", got)
	}
	for b := range to {
		want := placed(fronts, blocks(b))
		for _, n := range far(len(to)) {
			if got := front.Placed(to, blocks(n)); len(got) > 0 {
				t.Fatalf("placed of %d: %v", n, got)
			}
			for _, set := range [][]int{{n, b}, {b, n}, {n, b, n, b}} {
				if got := front.Placed(to, set); !slices.Equal(got, want) {
					t.Fatalf("placed of %v: %v, not %v", set, got, want)
				}
			}
		}
	}
}

// Errors: of graphs that may not be nothing is told: no block at all, more than there may be, and a number that is none,
// wherever it stands, in a block that is reached and in one that is not.
func TestForm(t *testing.T) {
	for _, to := range [][][]int{nil, {}, make([][]int, 0, 9), make([][]int, most+1), {{1}}, {nil, {2}}, {{0, -1}}} {
		nothing(t, to)
	}
	whole := [][]int{{1, 2}, {3}, {3, 3, 0}, nil, {5, 2}, {4, 4}, {}}
	held(t, whole)
	for b, l := range whole {
		for at := range len(l) + 1 {
			for _, n := range far(len(whole)) {
				to := clone(whole)
				to[b] = slices.Insert(to[b], at, n)
				nothing(t, to)
			}
		}
		for at := range l {
			for _, n := range far(len(whole)) {
				to := clone(whole)
				to[b][at] = n
				nothing(t, to)
			}
		}
	}
}

// nothing asks all of a graph that may not be.
func nothing(t *testing.T, to [][]int) {
	t.Helper()
	if got := front.Of(to); len(got) > 0 {
		t.Fatalf("of %d blocks: %v", len(to), got)
	}
	for _, set := range [][]int{nil, {0}, {1, 2, 3, 4}, far(len(to)), upTo(len(to))} {
		if got := front.Placed(to, set); len(got) > 0 {
			t.Fatalf("of %d blocks, placed of %v: %v", len(to), set, got)
		}
	}
}

// P13.1: an answer has a list a block, of those that are not reached as well.
func TestLength(t *testing.T) {
	for n := 1; n < 20; n++ {
		if got := front.Of(make([][]int, n)); len(got) != n {
			t.Errorf("of %d blocks: %v", n, fmt.Sprint(got))
		}
	}
}

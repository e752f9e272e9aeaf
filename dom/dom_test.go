package dom_test

import (
	"fmt"
	"math"
	"slices"
	"testing"

	"bobbin/api"
	"bobbin/dom"
)

// most is how many blocks a graph may have.
const most = 2 * api.MaxIns

// of is what is above what in a graph that may be.
func of(t *testing.T, to [][]int) *dom.Tree {
	t.Helper()
	tree, err := dom.Of(to)
	if err != api.OK || tree == nil {
		t.Fatalf("Of: %v, %v", tree, err)
	}
	return tree
}

// told is all that is asked of a graph of n blocks, written out; empty lists are alike.
func told(tree *dom.Tree, n int) string {
	f := facts{above: square(n), order: tree.Order()}
	for b := range n {
		f.reached = append(f.reached, tree.Reached(b))
		f.next = append(f.next, tree.Next(b))
		f.kids = append(f.kids, tree.Kids(b))
		for a := range n {
			f.above[a][b] = tree.Above(a, b)
		}
	}
	return fmt.Sprint(f)
}

// held holds a graph against what is said of it in other words.
func held(t *testing.T, to [][]int, want facts) *dom.Tree {
	t.Helper()
	tree := of(t, to)
	if got, want := told(tree, len(to)), fmt.Sprint(want); got != want {
		t.Fatalf("of %v: %s, not %s", to, got, want)
	}
	return tree
}

func blocks(l ...int) []int { return l }

// P12.1, P12.2: the chapter's examples.
func TestExamples(t *testing.T) {
	tree := of(t, [][]int{{1, 2}, {3}, {3}, {}})
	if tree.Next(3) != 0 || !slices.Equal(tree.Kids(0), blocks(1, 2, 3)) {
		t.Error("0 to 1 and 2, both to 3:", tree.Next(3), tree.Kids(0))
	}
	tree = of(t, [][]int{{1}, {2}, {1, 3}, nil})
	if tree.Next(3) != 2 || !tree.Above(1, 3) {
		t.Error("0 to 1, 1 to 2, 2 to 1 and 3:", tree.Next(3), tree.Above(1, 3))
	}
	tree = of(t, [][]int{{1}, {2}, {1, 3}, {}, {}})
	if tree.Reached(4) || tree.Next(4) != -1 || len(tree.Kids(4)) > 0 || tree.Above(4, 4) {
		t.Error("4, to which nobody goes:", tree.Reached(4), tree.Next(4), tree.Kids(4), tree.Above(4, 4))
	}
}

// P12.1, P12.2: graphs of each shape, with what is the next one above each block, and the order.
func TestShapes(t *testing.T) {
	for _, x := range []struct {
		what        string
		to          [][]int
		next, order []int
	}{
		{"one block", [][]int{nil}, blocks(-1), blocks(0)},
		{"one block that goes to itself", [][]int{{0}}, blocks(-1), blocks(0)},
		{"one block that goes to itself twice", [][]int{{0, 0}}, blocks(-1), blocks(0)},
		{"a row", [][]int{{1}, {2}, {3}, nil}, blocks(-1, 0, 1, 2), blocks(0, 1, 2, 3)},
		{"a row of other numbers", [][]int{{2}, nil, {3}, {1}}, blocks(-1, 3, 0, 2), blocks(0, 2, 3, 1)},
		{"a row whose end goes to block 0", [][]int{{1}, {2}, {0}}, blocks(-1, 0, 1), blocks(0, 1, 2)},
		{"a row of blocks that go to themselves", [][]int{{0, 1}, {2, 1}, {2}}, blocks(-1, 0, 1), blocks(0, 1, 2)},
		{"a tree", [][]int{{4, 1}, {3, 2}, nil, nil, {6, 5}, nil, nil}, blocks(-1, 0, 1, 1, 0, 4, 4), blocks(0, 1, 2, 3, 4, 5, 6)},
		{"a tree, with kids of lower numbers", [][]int{{5, 2}, nil, {4, 3}, nil, {1}, {6}, nil}, blocks(-1, 4, 0, 2, 2, 0, 5), blocks(0, 2, 3, 4, 1, 5, 6)},
		{"a loop", [][]int{{1}, {2, 3}, {1}, nil}, blocks(-1, 0, 1, 1), blocks(0, 1, 2, 3)},
		{"a loop in a loop", [][]int{{1}, {2, 5}, {3, 4}, {2}, {1}, nil}, blocks(-1, 0, 1, 2, 2, 1), blocks(0, 1, 2, 3, 4, 5)},
		{"two loops that share a block", [][]int{{1}, {2, 3}, {1}, {4}, {1, 5}, nil}, blocks(-1, 0, 1, 1, 3, 4), blocks(0, 1, 2, 3, 4, 5)},
		{"two loops that share block 0", [][]int{{1, 2}, {0}, {3}, {0}}, blocks(-1, 0, 0, 2), blocks(0, 1, 2, 3)},
		{"a way into a loop's middle", [][]int{{1, 2}, {3}, {4}, {2}, {1, 5}, nil}, blocks(-1, 0, 0, 1, 2, 4), blocks(0, 1, 3, 2, 4, 5)},
		{"two ways into a loop", [][]int{{1, 2}, {2}, {1}}, blocks(-1, 0, 0), blocks(0, 1, 2)},
		{"a way into the inner one of two loops", [][]int{{1}, {2, 3}, {3}, {4}, {3, 5}, {1, 6}, nil}, blocks(-1, 0, 1, 1, 3, 4, 5), blocks(0, 1, 2, 3, 4, 5, 6)},
		{"each to each other one", [][]int{{1, 2, 3}, {0, 2, 3}, {0, 1, 3}, {0, 1, 2}}, blocks(-1, 0, 0, 0), blocks(0, 1, 2, 3)},
		{"twice to one block", [][]int{{1, 1}, {3, 2, 3}, {3, 3}, nil}, blocks(-1, 0, 1, 1), blocks(0, 1, 2, 3)},
		{"ways that come together, twice", [][]int{{1, 2}, {3}, {3}, {4, 5}, {6}, {6}, nil}, blocks(-1, 0, 0, 0, 3, 3, 3), blocks(0, 1, 2, 3, 4, 5, 6)},
		{"ways that come together within others", [][]int{{1, 5}, {2, 3}, {4}, {4}, {6}, {6}, nil}, blocks(-1, 0, 1, 1, 1, 0, 0), blocks(0, 1, 2, 3, 4, 5, 6)},
		{"a way round what goes round", [][]int{{1, 3}, {2}, {3, 4}, {4}, {5}, nil}, blocks(-1, 0, 1, 0, 0, 4), blocks(0, 1, 2, 3, 4, 5)},
		{"nobody goes anywhere", [][]int{nil, nil, nil}, blocks(-1, -1, -1), blocks(0)},
		{"what is not reached goes to what is", [][]int{{2}, {2, 3}, {3}, nil, {1, 0}}, blocks(-1, -1, 0, 2, -1), blocks(0, 2, 3)},
		{"what is not reached goes to one another", [][]int{{3}, {2, 1}, {1, 3}, nil}, blocks(-1, -1, -1, 0), blocks(0, 3)},
		{"what is not reached goes by two ways", [][]int{{1}, {4}, {1, 4}, {2, 4}, nil}, blocks(-1, 0, -1, -1, 1), blocks(0, 1, 4)},
	} {
		tree := held(t, x.to, byWays(x.to))
		var next []int
		for b := range x.to {
			next = append(next, tree.Next(b))
		}
		if !slices.Equal(next, x.next) || !slices.Equal(tree.Order(), x.order) {
			t.Errorf("%s: next %v, order %v, not %v, %v", x.what, next, tree.Order(), x.next, x.order)
		}
	}
}

// far is a number that is none of n blocks; among them those that are near by, and those that go round.
func far(n int) []int {
	return blocks(-1, -2, -n, n, n+1, 2*n, most, math.MinInt, math.MinInt+1, math.MaxInt, math.MaxInt-1, 1<<32, -1<<32, math.MinInt32, math.MaxInt32)
}

// R4, P12.1: graphs that may not be: no block at all, more than there may be, and a number that is none, wherever it stands.
func TestForm(t *testing.T) {
	for _, to := range [][][]int{nil, {}, make([][]int, 0, 9), make([][]int, most+1), {{1}}, {nil, {2}}} {
		refused(t, to)
	}
	whole := [][]int{{1, 2}, {3}, {3, 3, 0}, nil, {5, 2}, {4, 4}, {}}
	held(t, whole, byWays(whole))
	for b, l := range whole {
		for at := range len(l) + 1 {
			for _, n := range far(len(whole)) {
				to := clone(whole)
				to[b] = slices.Insert(to[b], at, n)
				refused(t, to)
			}
		}
		for at := range l {
			for _, n := range far(len(whole)) {
				to := clone(whole)
				to[b][at] = n
				refused(t, to)
			}
		}
	}
}

// refused asks that a graph is refused, and of what comes beside that what is asked of no tree.
func refused(t *testing.T, to [][]int) {
	t.Helper()
	tree, err := dom.Of(to)
	if tree != nil || err != api.ErrForm {
		t.Fatalf("of %d blocks: %v, %v", len(to), tree, err)
	}
	nothing(t, tree)
}

// nothing asks all of a tree of which nothing is known.
func nothing(t *testing.T, tree *dom.Tree) {
	t.Helper()
	for _, b := range append(far(4), 0, 1, 3) {
		if tree.Reached(b) || tree.Next(b) != -1 || len(tree.Kids(b)) > 0 {
			t.Fatalf("block %d: %v, %d, %v", b, tree.Reached(b), tree.Next(b), tree.Kids(b))
		}
		for _, a := range append(far(4), 0, 1, 3) {
			if tree.Above(a, b) || tree.Above(b, a) {
				t.Fatalf("%d above %d", a, b)
			}
		}
	}
	if len(tree.Order()) > 0 {
		t.Fatalf("order: %v", tree.Order())
	}
}

// R1, P12.2: of a nil tree: no, -1, none; one that was not made by Of answers, too.
func TestNil(t *testing.T) {
	nothing(t, nil)
	tree := new(dom.Tree)
	tree.Next(0)
	tree.Kids(0)
	tree.Order()
	for _, b := range append(far(4), 0, 1, 3) {
		tree.Reached(b)
		tree.Above(b, 0)
	}
}

// P12.1, P12.2: numbers that are no blocks, and such that are not reached.
func TestNumbers(t *testing.T) {
	to := [][]int{{1}, {2, 3}, {1}, nil, {1, 5}, {4}}
	tree := held(t, to, byWays(to))
	for _, b := range append(far(len(to)), 4, 5) {
		if tree.Reached(b) || tree.Next(b) != -1 || len(tree.Kids(b)) > 0 {
			t.Errorf("block %d: %v, %d, %v", b, tree.Reached(b), tree.Next(b), tree.Kids(b))
		}
		for _, a := range append(far(len(to)), upTo(len(to))...) {
			if tree.Above(a, b) || tree.Above(b, a) {
				t.Errorf("%d above %d, or the other way", a, b)
			}
		}
	}
	for b := range 4 {
		if !tree.Reached(b) || !tree.Above(b, b) {
			t.Errorf("block %d: %v, above itself: %v", b, tree.Reached(b), tree.Above(b, b))
		}
	}
}

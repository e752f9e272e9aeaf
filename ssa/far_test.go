package ssa_test

import (
	"slices"
	"strconv"
	"strings"
	"testing"

	"bobbin/api"
	"bobbin/flow"
	"bobbin/ssa"
)

// As many blocks, and registers, as there may be.
const (
	mostBlocks = 2 * api.MaxIns
	mostRegs   = 4 * api.MaxIns
)

// joined is a graph of many blocks: From of each is what To says.
func joined(params, regs int, l []api.Block) api.Graph {
	for b, x := range l {
		for _, to := range x.To {
			if from := l[to].From; len(from) == 0 || from[len(from)-1] != b {
				l[to].From = append(from, b)
			}
		}
	}
	return api.Graph{Name: "f", Params: params, Regs: regs, Blocks: l}
}

// row are n blocks, one behind the other, each of which is filled, and the last one goes back.
func row(n int, fill func(b int) []api.Ins) []api.Block {
	l := make([]api.Block, n)
	for b := range l {
		l[b] = block(list(b+1), fill(b)...)
	}
	l[n-1].To = nil
	l[n-1].Code = append(l[n-1].Code, back(0))
	return l
}

// upTo are the numbers from 0 on to n, without that.
func upTo(n int) []int {
	out := make([]int, n)
	for at := range out {
		out[at] = at
	}
	return out
}

// held holds what comes of a great graph against what is known: how many numbers, how many Phis of each block.
func held(t *testing.T, what string, g api.Graph, regs int, phis func(b int) int) api.Graph {
	t.Helper()
	got := of(t, g)
	if got.Regs != regs {
		t.Errorf("%s: %d numbers, not %d", what, got.Regs, regs)
	}
	for b, x := range got.Blocks {
		if len(x.Phis) != phis(b) {
			t.Fatalf("%s: block %d has %d Phis, not %d", what, b, len(x.Phis), phis(b))
		}
	}
	setOnce(t, got)
	asMany(t, g, got)
	return got
}

func noPhi(int) int { return 0 }

// P14.1, P14.2: as many blocks as there may be, in a row, each of which sets two registers, of as many as there may be, and
// reads those of the block ahead; and with a block, or a register, more.
func TestMost(t *testing.T) {
	fill := func(b int) []api.Ins {
		l := []api.Ins{constant(2 * b), constant(2*b + 1)}
		if b > 0 {
			l = append(l, store(2*b-1, 2*b-2))
		}
		return l
	}
	g := joined(0, mostRegs, row(mostBlocks, fill))
	g.Blocks[mostBlocks-1].Code[3].A = mostRegs - 1
	alive := live(t, g)
	for b, l := range alive {
		if b > 0 && !slices.Equal(l, list(2*b-2, 2*b-1)) {
			t.Fatalf("live at the begin of block %d: %v", b, l)
		}
	}
	got := held(t, "a row", g, mostRegs, noPhi)
	if !flow.SameGraph(got, g) {
		t.Error("a row in which each register is set once is not what it was")
	}
	// A way back from each second block to the one ahead: what is read there is set ahead of both.
	for b := 1; b+1 < mostBlocks; b += 2 {
		x := &g.Blocks[b]
		x.To = append(x.To, b)
		x.Code = append(x.Code, unary(2*b-2, 2*b-2), branch(2*b-1))
		x.From = append(x.From, b)
	}
	held(t, "with ways back", g, mostRegs+mostBlocks-2, func(b int) int {
		if b%2 == 1 && b+1 < mostBlocks {
			return 1
		}
		return 0
	})
	refused(t, joined(0, mostRegs+1, row(mostBlocks, fill)), api.ErrForm)
	refused(t, joined(0, mostRegs, row(mostBlocks+1, func(int) []api.Ins { return nil })), api.ErrForm)
}

// P14.1, P14.2: as many registers as there may be, all of them set in one block, and read in the next one.
func TestMostRegs(t *testing.T) {
	var set, read []api.Ins
	for r := range mostRegs {
		set = append(set, constant(mostRegs-1-r))
		read = append(read, show(r))
	}
	g := joined(0, mostRegs, row(2, func(b int) []api.Ins { return [][]api.Ins{set, read}[b] }))
	expect(t, "what is live", live(t, g), [][]int{nil, upTo(mostRegs)})
	got := held(t, "two blocks", g, mostRegs, noPhi)
	for r, i := range got.Blocks[1].Code[:mostRegs] {
		if i.A != mostRegs-1-r {
			t.Fatalf("%d is read for %d", i.A, r)
		}
	}
	// All of them set in both ways of a branch: as many Phis, and three times as many numbers.
	l := []api.Block{block(list(1, 2), append(set, branch(0))...), block(list(2), set...), block(nil, append(read, back(0))...)}
	got = held(t, "one way of two", joined(0, mostRegs, l), 3*mostRegs, func(b int) int { return []int{0, 0, mostRegs}[b] })
	for r, p := range got.Blocks[2].Phis {
		if !slices.Equal(p.Args, list(mostRegs-1-r, 2*mostRegs-1-r)) {
			t.Fatalf("the Phi of %d: %+v", r, p)
		}
	}
}

// P14.1, P14.2: many registers that are live in many blocks, in rows of boxes in each of which one of them is set in one way of two.
func TestBoxes(t *testing.T) {
	const boxes, regs = 5000, 300
	l := []api.Block{block(list(1))}
	for r := range regs {
		l[0].Code = append(l[0].Code, constant(r+1))
	}
	var read []api.Ins
	for n := range boxes {
		b := len(l)
		l = append(l, block(list(b+1, b+2), branch(0)), block(list(b+2), constant(1+n%regs)))
	}
	for r := range regs {
		read = append(read, show(r+1))
	}
	l = append(l, block(nil, append(read, back(0))...))
	g := joined(1, regs+1, l)
	alive := live(t, g)
	if len(alive[1]) != regs+1 || len(alive[2]) != regs || len(alive[2*boxes+1]) != regs+1 {
		t.Error("live:", len(alive[1]), len(alive[2]), len(alive[2*boxes+1]))
	}
	got := held(t, "boxes", g, 1+regs+2*boxes, func(b int) int {
		if b > 2 && b%2 == 1 {
			return 1
		}
		return 0
	})
	if last := got.Blocks[2*boxes+1].Code[(boxes-1)%regs].A; last != got.Regs-1 {
		t.Error("what was set last:", last)
	}
}

// P14.2: many loops within one another, with a register that is set in the midst of all: a Phi where each begins.
func TestDeepLoops(t *testing.T) {
	const n = mostBlocks
	l := row(n, func(b int) []api.Ins { return nil })
	l[0].Code = []api.Ins{constant(1)}
	for b := n / 2; b < n-1; b++ {
		l[b].To = append(l[b].To, n-1-b)
		l[b].Code = append(l[b].Code, branch(0))
	}
	l[n/2].Code = slices.Insert(l[n/2].Code, 0, unary(1, 1))
	l[n-1].Code[0] = back(1)
	g := joined(1, 2, l)
	if !flow.May(g) {
		t.Fatal("it may not be")
	}
	got := held(t, "loops within one another", g, 1+2+(n/2-1), func(b int) int {
		if 0 < b && b < n/2 {
			return 1
		}
		return 0
	})
	if p := got.Blocks[5].Phis[0]; !slices.Equal(p.Args, list(p.R-1, got.Regs-1)) || got.Blocks[n-1].Code[0].A != got.Regs-1 {
		t.Errorf("the Phi of block 5: %+v", p)
	}
}

// P14.2: from block 0 a way to each of many blocks, by a tree of branches, and from these to the last one: great From, and many kids.
func TestWide(t *testing.T) {
	const n = 16384
	l := make([]api.Block, n)
	for b := range n - 1 {
		l[b] = block(list(min(2*b+1, n-1), min(2*b+2, n-1)), constant(1), branch(0))
	}
	l[n-1] = block(nil, back(1))
	g := joined(1, 2, l)
	from := len(g.Blocks[n-1].From)
	got := held(t, "a tree", g, 1+n, func(b int) int { return max(0, b-n+2) })
	p := got.Blocks[n-1].Phis[0]
	if len(p.Args) != from || from != n/2 {
		t.Fatal("how many lead to the last block:", from, len(p.Args))
	}
	for way, b := range got.Blocks[n-1].From {
		if p.Args[way] != got.Blocks[b].Code[0].R {
			t.Fatalf("from %d: %d, not %d", b, p.Args[way], got.Blocks[b].Code[0].R)
		}
	}
}

// P14.2: more numbers may come of a graph than its Regs may be: no call refuses it for that.
func TestMoreNumbers(t *testing.T) {
	const regs = 4000
	l := []api.Block{block(list(1))}
	for r := range regs {
		l[0].Code = append(l[0].Code, constant(r+1))
	}
	for range 10 {
		b := len(l)
		l = append(l, block(list(b+1, b+2), branch(0)), block(list(b+2), l[0].Code...))
	}
	var read []api.Ins
	for r := range regs {
		read = append(read, show(r+1))
	}
	l = append(l, block(nil, append(read, back(0))...))
	held(t, "many numbers", joined(1, regs+1, l), 1+regs+2*10*regs, func(b int) int {
		if b > 2 && b%2 == 1 {
			return regs
		}
		return 0
	})
}

// P14.2: the text of a program with nearly as many registers as there may be, many of which are live all through it.
func TestLongText(t *testing.T) {
	const vars, ifs = 800, 2400
	var s strings.Builder
	s.WriteString("thread t { var n = 1; ")
	for v := range vars {
		s.WriteString("var v" + strconv.Itoa(v) + "=n;")
	}
	for n := range ifs {
		s.WriteString("if n<n{v" + strconv.Itoa(n%vars) + "=n;}")
	}
	for v := range vars {
		s.WriteString("print v" + strconv.Itoa(v) + ";")
	}
	f := formOf(t, s.String()+"}")
	all, err := ssa.All(f)
	if err != api.OK {
		t.Fatal(err)
	}
	phis := 0
	for _, x := range all.Funs[0].Blocks {
		phis += len(x.Phis)
	}
	if phis != ifs {
		t.Errorf("%d Phis of %d choices", phis, ifs)
	}
	setOnce(t, all.Funs[0])
	asMany(t, f.Funs[0], all.Funs[0])
	asItWas(t, f.Funs[0], all.Funs[0])
}

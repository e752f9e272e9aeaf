package sound_test

import (
	"slices"
	"strconv"
	"strings"
	"testing"

	"bobbin/api"
	"bobbin/flow"
	"bobbin/sound"
	"bobbin/ssa"
)

// As many blocks, and registers, as there may be.
const (
	mostBlocks = 2 * api.MaxIns
	mostRegs   = 4 * api.MaxIns
)

// row are n blocks, one behind the other, each of which is filled, and the last one goes back.
func row(n int, fill func(b int) []api.Ins) []api.Block {
	l := make([]api.Block, n)
	for b := range l {
		l[b] = block(list(b+1), fill(b)...)
	}
	l[n-1].To = nil
	l[n-1].Code = append(l[n-1].Code, back(0))
	return l
}

// held holds what the calls answer of a great graph against what is known of it, and where some registers are set.
func held(t *testing.T, what string, g api.Graph, err, check api.Errno, set map[int]sound.Spot) {
	t.Helper()
	got, refusal := sound.Set(g)
	is, may := sound.Check(g), sound.May(g)
	if refusal != err || is != check || may != (check == api.OK) {
		t.Fatalf("%s: Set %v, Check %v, May %v", what, refusal, is, may)
	}
	if want := g.Regs; err == api.OK && len(got) != want || err != api.OK && len(got) > 0 {
		t.Fatalf("%s: %d registers, not %d", what, len(got), want)
	}
	for r, s := range set {
		if got[r] != s {
			t.Fatalf("%s: %d is set at %v, not %v", what, r, got[r], s)
		}
	}
}

// P15.1: as many blocks as there may be, in a row, each of which sets two registers, of as many as there may be, and reads
// those of the block ahead, and of the first one; with something wrong in the last one; and with a block, or a register, more.
func TestMost(t *testing.T) {
	fill := func(b int) []api.Ins {
		l := []api.Ins{constant(2 * b), constant(2*b + 1)}
		if b > 0 {
			l = append(l, store(2*b-1, 2*b-2), store(0, 1))
		}
		return l
	}
	g := graph(0, mostRegs, row(mostBlocks, fill)...)
	last := sound.Spot{Block: mostBlocks - 1, At: 1}
	held(t, "a row", g, api.OK, api.OK, map[int]sound.Spot{0: {Block: 0, At: 0}, 1: {Block: 0, At: 1}, 9999: {Block: 4999, At: 1}, mostRegs - 1: last})
	if set, _ := sound.Set(g); set[12345] != spotsOf(g, 12345)[0] {
		t.Error("12345 is set at", set[12345])
	}

	end := g.Blocks[mostBlocks-1].Code
	end[1] = show(0)
	held(t, "the last one is not set", g, api.OK, api.OK, map[int]sound.Spot{mostRegs - 1: {Block: -1, At: -1}})
	end[1] = show(mostRegs - 1)
	held(t, "the last one is not set, and read", g, api.OK, api.ErrNone, map[int]sound.Spot{mostRegs - 1: {Block: -1, At: -1}, mostRegs - 2: {Block: mostBlocks - 1, At: 0}})
	end[1] = constant(0)
	held(t, "the first one is set once more", g, api.ErrTwice, api.ErrTwice, nil)
	end[1] = constant(mostRegs)
	held(t, "a register that is none", g, api.ErrForm, api.ErrForm, nil)
	end[1] = constant(mostRegs - 1)
	held(t, "as it was", g, api.OK, api.OK, nil)
	if !sound.MayForm(program(g, g)) {
		t.Error("a program of them is not so")
	}

	held(t, "a register more", graph(0, mostRegs+1, row(mostBlocks, fill)...), api.ErrForm, api.ErrForm, nil)
	held(t, "a block more", graph(0, mostRegs, row(mostBlocks+1, func(int) []api.Ins { return nil })...), api.ErrForm, api.ErrForm, nil)
}

// P15.1: as many registers as there may be, set in one block and read in the next one; and many more instructions that read them.
func TestMostRegs(t *testing.T) {
	var set, read []api.Ins
	for r := range mostRegs {
		set = append(set, constant(mostRegs-1-r))
		read = append(read, show(r), store(r, mostRegs-1-r), release())
	}
	l := []api.Block{block(list(1), set...), block(nil, append(slices.Clone(read), back(mostRegs-1))...)}
	held(t, "two blocks", graph(0, mostRegs, l...), api.OK, api.OK, map[int]sound.Spot{0: {Block: 0, At: mostRegs - 1}, mostRegs - 1: {Block: 0, At: 0}})
	one := append(append(slices.Clone(set), read...), back(0))
	held(t, "one block", graph(0, mostRegs, block(nil, one...)), api.OK, api.OK, map[int]sound.Spot{7: {Block: 0, At: mostRegs - 8}})
	one[mostRegs-1], one[mostRegs] = one[mostRegs], one[mostRegs-1]
	held(t, "the last one is set behind it is read", graph(0, mostRegs, block(nil, one...)), api.OK, api.ErrNone, map[int]sound.Spot{0: {Block: 0, At: mostRegs}})
	l[1].Code[len(read)-1] = constant(mostRegs / 2)
	held(t, "set once more", graph(0, mostRegs, l...), api.ErrTwice, api.ErrTwice, nil)
}

// P15.1: as many blocks as there may be, each one's two ways leading to the next two: so from some of them one comes to the
// last ones by very many ways; with Phis.
func TestLadder(t *testing.T) {
	const n = mostBlocks
	l := make([]api.Block, n)
	for b := range n - 2 {
		l[b] = block(list(b+1, b+2), constant(b+1), branch(0))
	}
	l[n-2], l[n-1] = block(list(n-1)), block(nil, back(0))
	g := graph(1, mostRegs, l...)
	for b := 2; b < n-2; b++ {
		g.Blocks[b].Phis = []api.Phi{phi(n+b, b-1, b)}
	}
	held(t, "a ladder", g, api.OK, api.OK, map[int]sound.Spot{1: {Block: 0, At: 0}, n - 2: {Block: n - 3, At: 0}, n + 2: {Block: 2, At: -1}, n + 1: {Block: -1, At: -1}})
	p := g.Blocks[n-3].Phis[0].Args
	p[0], p[1] = p[1], p[0]
	held(t, "a ladder, the last Phi the other way about", g, api.OK, api.ErrNone, nil)
	p[0] = 1
	held(t, "a ladder, the last Phi of block 0's one", g, api.OK, api.ErrNone, nil)
	p[1] = 1
	held(t, "a ladder, the last Phi of block 0's one alone", g, api.OK, api.OK, nil)
	g.Blocks[n-1].Code[0].A = n - 2
	held(t, "a ladder, one of its ways read at the end", g, api.OK, api.ErrNone, nil)
	g.Blocks[n-1].Code[0].A = 1
	held(t, "a ladder, block 0's one read at the end", g, api.OK, api.OK, nil)
}

// P15.1: from block 0 a tree of branches, from the leaves of which one comes to the last block, that has a Phi of as many
// Args; and many Phis.
func TestWide(t *testing.T) {
	const n = 16384
	l := make([]api.Block, n)
	for b := range n - 1 {
		l[b] = block(list(min(2*b+1, n-1), min(2*b+2, n-1)), constant(b+1), branch(0))
	}
	l[n-1] = block(nil, back(n))
	g := graph(1, n+100, l...)
	x := &g.Blocks[n-1]
	for r := range 50 {
		p := phi(n + r)
		for _, from := range x.From {
			p.Args = append(p.Args, []int{from + 1, 0, 1, (from-1)/2 + 1}[r%4])
		}
		x.Phis = append(x.Phis, p)
	}
	if len(x.From) != n/2 {
		t.Fatal("how many lead to the last block:", len(x.From))
	}
	held(t, "a tree", g, api.OK, api.OK, map[int]sound.Spot{n: {Block: n - 1, At: -1}, n + 49: {Block: n - 1, At: -1}, n + 50: {Block: -1, At: -1}})
	x.Phis[48].Args[n/2-1]--
	held(t, "a tree, with the last one's Arg another one", g, api.OK, api.ErrNone, nil)
	x.Phis[48].Args[n/2-1] = n + 48
	held(t, "a tree, with the last one's Arg its own", g, api.OK, api.ErrNone, nil)
}

// P15.1, P15.2: many loops within one another, with a register that is set in the midst of all.
func TestDeepLoops(t *testing.T) {
	const n = mostBlocks
	l := row(n, func(b int) []api.Ins { return nil })
	l[0].Code = []api.Ins{constant(1)}
	for b := n / 2; b < n-1; b++ {
		l[b].To = append(l[b].To, n-1-b)
		l[b].Code = append(l[b].Code, branch(0))
	}
	l[n/2].Code = slices.Insert(l[n/2].Code, 0, unary(1, 1))
	l[n-1].Code[0] = back(1)
	g := graph(1, 2, l...)
	held(t, "ahead of ssa", g, api.ErrTwice, api.ErrTwice, nil)
	got, err := ssa.Of(g)
	if err != api.OK {
		t.Fatal(err)
	}
	held(t, "behind ssa", got, api.OK, api.OK, map[int]sound.Spot{0: {Block: 0, At: -1}, 1: {Block: 0, At: 0}, 2: {Block: 1, At: -1}, got.Regs - 1: {Block: n / 2, At: 0}})
	got.Blocks[n/2].Code[0].A = got.Regs - 1
	held(t, "what is set in the midst reads itself", got, api.OK, api.ErrNone, nil)
}

// P15.2: the text of a program with nearly as many registers as there may be, many of which are live all through it.
func TestLongText(t *testing.T) {
	const vars, ifs = 800, 2400
	var s strings.Builder
	s.WriteString("thread t { var n = 1; ")
	for v := range vars {
		s.WriteString("var v" + strconv.Itoa(v) + "=n;")
	}
	for n := range ifs {
		s.WriteString("if n<n{v" + strconv.Itoa(n%vars) + "=n;}")
	}
	for v := range vars {
		s.WriteString("print v" + strconv.Itoa(v) + ";")
	}
	f := formOf(t, s.String()+"}")
	all, err := ssa.All(f)
	if err != api.OK {
		t.Fatal(err)
	}
	if sound.MayForm(f) || !sound.MayForm(all) {
		t.Error("ahead of ssa, and behind it:", sound.MayForm(f), sound.MayForm(all))
	}
	made(t, all.Funs[0])
}

// P15.1, P15.2: as many numbers as a graph may have may come of one, and more; of what has more flow.May says no, and so
// does Check, since each register is set once in what may be alone.
func TestMoreNumbers(t *testing.T) {
	boxes := func(regs int) api.Graph {
		l := []api.Block{block(list(1))}
		for r := range regs {
			l[0].Code = append(l[0].Code, constant(r+1))
		}
		for range 3 {
			b := len(l)
			l = append(l, block(list(b+1, b+2), branch(0)), block(list(b+2), slices.Clone(l[0].Code)...))
		}
		var read []api.Ins
		for r := range regs {
			read = append(read, show(r+1))
		}
		return graph(1, regs+1, append(l, block(nil, append(read, back(0))...))...)
	}
	for _, regs := range []int{mostRegs/7 - 1, mostRegs / 7, mostRegs/7 + 1} {
		got, err := ssa.Of(boxes(regs))
		if err != api.OK || got.Regs != 1+7*regs {
			t.Fatal(err, got.Regs)
		}
		want := api.OK
		if got.Regs > mostRegs {
			want = api.ErrForm
		}
		if flow.May(got) != (want == api.OK) {
			t.Fatal("flow.May:", got.Regs)
		}
		held(t, "many numbers", got, want, want, nil)
	}
}

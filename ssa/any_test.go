package ssa_test

import (
	"slices"
	"testing"

	"bobbin/api"
	"bobbin/dom"
	"bobbin/flow"
	"bobbin/ssa"
)

// answers holds what Of answers against the chapter said in other words, and says whether the graph was refused.
func answers(t *testing.T, g api.Graph) (api.Graph, bool) {
	t.Helper()
	got, err := ssa.Of(g)
	if l := liveOf(g)[0]; len(l) > 0 && l[len(l)-1] >= g.Params {
		if err != api.ErrState || written(got) != written(api.Graph{}) {
			t.Fatalf("not refused: %v, %+v of %+v", err, got, g)
		}
		return got, true
	}
	if err != api.OK || written(got) != written(once(t, g)) {
		t.Fatalf("%v, %+v, not %+v, of %+v", err, got, once(t, g), g)
	}
	return got, false
}

// P14.2: all graphs of up to three blocks, and each 97th of four, of one register beside a parameter by which they branch.
func TestAllSmall(t *testing.T) {
	codes := [][]api.Ins{nil, {constant(1)}, {show(1)}, {unary(1, 1)}}
	seen := map[string]int{}
	for n := 1; n <= 4; n++ {
		ends := 1 + (n - 1) + (n-1)*(n-1)
		kinds := len(codes) * ends
		all, step := 1, 1
		for range n {
			all *= kinds
		}
		if n == 4 {
			step = 97
		}
		for number := 0; number < all; number += step {
			l := make([]api.Block, n)
			for b, left := 0, number; b < n; b++ {
				l[b] = ended(codes[left%len(codes)], left/len(codes)%ends, n-1)
				left /= kinds
			}
			smallOne(t, graph(1, 2, l...), seen)
		}
	}
	if seen["Phis"] < 5000 || seen["ErrState"] < 5000 || seen["ErrForm"] < 5000 || seen["none"] < 5000 {
		t.Error("what was seen:", seen)
	}
}

// ended is a block that ends in a way of a number: it goes back, to one of the others, or to two of them.
func ended(l []api.Ins, way, others int) api.Block {
	l = slices.Clone(l)
	switch way--; {
	case way < 0:
		return block(nil, append(l, back(0))...)
	case way < others:
		return block(list(1+way), append(l, jump())...)
	}
	way -= others
	return block(list(1+way/others, 1+way%others), append(l, branch(0))...)
}

// smallOne holds what Of and Live answer of a graph against the chapter said in other words, and counts what it was.
func smallOne(t *testing.T, g api.Graph, seen map[string]int) {
	t.Helper()
	expect(t, "what is live", live(t, g), liveOf(g))
	if len(trimmed(g.Blocks)) < len(g.Blocks) {
		seen["ErrForm"]++
		refused(t, g, api.ErrForm)
		return
	}
	got, state := answers(t, g)
	switch {
	case state:
		seen["ErrState"]++
	case slices.ContainsFunc(got.Blocks, func(x api.Block) bool { return len(x.Phis) > 0 }):
		seen["Phis"]++
	default:
		seen["none"]++
	}
}

// P14.2 to P14.5: many made graphs, against the chapter said in other words; what follows; and ways through both.
func TestAnyGraph(t *testing.T) {
	m := &maker{seed: 1}
	seen := map[string]int{}
	for round := range 6000 {
		g := m.any(pick(m, 4, 9, 14))
		got, state := answers(t, g)
		if state {
			seen["ErrState"]++
			continue
		}
		seen["once"]++
		for _, x := range got.Blocks {
			seen["Phis"] += len(x.Phis)
		}
		setOnce(t, got)
		asItWas(t, g, got)
		asMany(t, g, got)
		for range 3 {
			walked(t, m, g, got)
		}
		if round%8 == 0 {
			again(t, got)
		}
	}
	if seen["once"] < 3000 || seen["ErrState"] < 1000 || seen["Phis"] < 3000 {
		t.Error("what was seen:", seen)
	}
}

// P14.2 to P14.5: graphs of more blocks.
func TestAnyGreat(t *testing.T) {
	m := &maker{seed: 2}
	for range 60 {
		g := m.any(90)
		if got, state := answers(t, g); !state {
			setOnce(t, got)
			asItWas(t, g, got)
			asMany(t, g, got)
		}
	}
}

// P14.2 to P14.5: many made programs' texts, by all layers ahead: all of each program, Fun by Fun.
func TestAnyText(t *testing.T) {
	m := &maker{seed: 3}
	phis := 0
	for range 300 {
		f := formOf(t, m.text())
		all, err := ssa.All(f)
		if err != api.OK || len(all.Funs) != len(f.Funs) {
			t.Fatal(err, len(all.Funs))
		}
		expect(t, "its Mems", all.Mems, f.Mems)
		expect(t, "its Locks", all.Locks, f.Locks)
		for fun, g := range f.Funs {
			got := all.Funs[fun]
			expect(t, "a Fun", got, once(t, g))
			setOnce(t, got)
			asItWas(t, g, got)
			asMany(t, g, got)
			walked(t, m, g, got)
			for _, x := range got.Blocks {
				phis += len(x.Phis)
			}
		}
		if !flow.MayForm(all) {
			t.Fatalf("what comes of it may not be: %+v", all)
		}
	}
	if phis < 1000 {
		t.Error("Phis:", phis)
	}
}

// again asks of a graph with each register set once, and its Phis gone: it is refused where one reads what a Phi set, and is the same else.
func again(t *testing.T, g api.Graph) {
	t.Helper()
	if _, err := ssa.Of(g); err != api.OK && err != api.ErrForm {
		t.Fatal(err)
	}
	for _, x := range g.Blocks {
		if len(x.Phis) > 0 {
			refused(t, g, api.ErrForm)
			return
		}
	}
	got, err := ssa.Of(g)
	if err != api.OK || written(got) != written(g) {
		t.Fatalf("once more: %v, %+v, not %+v", err, got, g)
	}
}

// setOnce asks what P14.3 says.
func setOnce(t *testing.T, g api.Graph) {
	t.Helper()
	tree, err := dom.Of(ways(g.Blocks))
	if err != api.OK {
		t.Fatal(err)
	}
	// where is, of each number, the block that sets it, and the place there: 0 of a Phi, from 1 on of instructions.
	type place struct{ block, at int }
	where := map[int]place{}
	set := func(r, b, at int) {
		if _, twice := where[r]; twice || r < g.Params {
			t.Fatalf("%d is set once more: %+v", r, g)
		}
		where[r] = place{b, at}
	}
	for b, x := range g.Blocks {
		for _, p := range x.Phis {
			set(p.R, b, 0)
		}
		for at, i := range x.Code {
			if setsIt(i, i.R) {
				set(i.R, b, at+1)
			}
		}
	}
	asked := func(r, b, at int) {
		p, is := where[r]
		if r >= g.Params && (!is || p.block == b && p.at >= at || !tree.Above(p.block, b)) {
			t.Fatalf("%d is read in block %d, set in %+v: %+v", r, b, p, g)
		}
	}
	for b, x := range g.Blocks {
		for _, p := range x.Phis {
			for way, from := range x.From {
				asked(p.Args[way], from, len(g.Blocks[from].Code)+1)
			}
		}
		for at, i := range x.Code {
			for _, r := range readsOf(i) {
				asked(r, b, at+1)
			}
		}
	}
}

// asItWas asks what P14.4 says.
func asItWas(t *testing.T, g, got api.Graph) {
	t.Helper()
	bare := func(g api.Graph) api.Graph {
		g = clone(g)
		g.Regs = 0
		for b := range g.Blocks {
			g.Blocks[b].Phis = nil
			for at := range g.Blocks[b].Code {
				i := &g.Blocks[b].Code[at]
				i.R, i.A, i.B = 0, min(i.A, 0), 0 // an A of -1 is none
				clear(i.Args)
			}
		}
		return g
	}
	expect(t, "with Phis gone, and numbers not looked at", bare(got), bare(g))
}

// asMany asks what P14.5 says.
func asMany(t *testing.T, g, got api.Graph) {
	t.Helper()
	count := make([]int, got.Regs)
	for _, x := range got.Blocks {
		for _, p := range x.Phis {
			count[p.R]++
			if len(p.Args) != len(x.From) {
				t.Fatalf("%d Args of %d: %+v", len(p.Args), len(x.From), got)
			}
		}
		for _, i := range x.Code {
			if setsIt(i, i.R) {
				count[i.R]++
			}
		}
	}
	for r, n := range count {
		if want := min(1, max(0, r-g.Params+1)); n != want {
			t.Fatalf("%d is set %d times: %+v", r, n, got)
		}
	}
}

// walked goes one way, some blocks long, through both graphs: what is read was set by the same instruction of the same step.
func walked(t *testing.T, m *maker, g, got api.Graph) {
	t.Helper()
	type made struct{ step, at int }
	old, now := map[int]made{}, map[int]made{}
	for r := range g.Params {
		old[r], now[r] = made{-1, r}, made{-1, r}
	}
	from := -1
	for step, b := 0, 0; step < 30; step++ {
		x, y := g.Blocks[b], got.Blocks[b]
		if len(y.Phis) > 0 {
			way := slices.Index(y.From, from)
			chosen := map[int]made{}
			for _, p := range y.Phis {
				chosen[p.R] = now[p.Args[way]]
			}
			for r, v := range chosen {
				now[r] = v
			}
		}
		for at, i := range x.Code {
			j := y.Code[at]
			for n, r := range readsOf(i) {
				if a, b := old[r], now[readsOf(j)[n]]; a != b {
					t.Fatalf("%+v and %+v are read: %+v and %+v", a, b, g, got)
				}
			}
			if setsIt(i, i.R) {
				old[i.R], now[j.R] = made{step, at}, made{step, at}
			}
		}
		if len(x.To) == 0 {
			return
		}
		from, b = b, x.To[m.next(len(x.To))]
	}
}

// P14.1, P14.6: what is live in many made graphs, with Phis and blocks that are not reached, against all ways.
func TestAnyLive(t *testing.T) {
	m := &maker{seed: 4}
	count := 0
	for range 6000 {
		g := m.loose(12)
		if m.next(3) > 0 {
			g = m.withChoices(g)
		}
		want := liveOf(g)
		expect(t, "what is live", live(t, g), want)
		for b, x := range g.Blocks {
			count += len(want[b])
			lives(t, g, want, b, x)
		}
	}
	if count < 20000 {
		t.Error("how many are live:", count)
	}
}

// lives asks of a block what P14.6 says, and no less: what is live is read ahead of being set, or live, or an Arg, behind it.
func lives(t *testing.T, g api.Graph, l [][]int, b int, x api.Block) {
	t.Helper()
	behind := []int{}
	for _, to := range x.To {
		behind = append(behind, l[to]...)
		for _, p := range g.Blocks[to].Phis {
			behind = append(behind, p.Args[slices.Index(g.Blocks[to].From, b)])
		}
	}
	for r := range g.Regs {
		want := slices.Contains(behind, r)
		for _, i := range slices.Backward(x.Code) {
			want = slices.Contains(readsOf(i), r) || want && !setsIt(i, r)
		}
		if is := slices.Contains(l[b], r); is != (want && !isChosen(x, r)) {
			t.Fatalf("%d live at the begin of %d: %v: %+v", r, b, is, g)
		}
	}
}

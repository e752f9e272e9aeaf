package ssa_test

import (
	"math"
	"slices"
	"sync"
	"testing"

	"bobbin/api"
	"bobbin/flow"
	"bobbin/ssa"
)

// roomy is a graph with something else in the room behind each end, that shares nothing with it.
func roomy(g api.Graph) api.Graph {
	g = clone(g)
	g.Blocks = append(g.Blocks, block(list(-5)))[:len(g.Blocks)]
	for b := range g.Blocks {
		x := &g.Blocks[b]
		x.Phis = append(x.Phis, phi(-5), phi(0))[:len(x.Phis)]
		x.Code = append(x.Code, api.Ins{Op: 99}, show(-5))[:len(x.Code)]
		x.From, x.To = append(x.From, -5)[:len(x.From)], append(x.To, -5, 0)[:len(x.To)]
		for n := range x.Phis {
			x.Phis[n].Args = append(x.Phis[n].Args, -5)[:len(x.Phis[n].Args)]
		}
		for at := range x.Code {
			x.Code[at].Args = append(x.Code[at].Args, -5, 9)[:len(x.Code[at].Args)]
		}
	}
	return g
}

// whole is a graph with the room behind each end.
func whole(g api.Graph) api.Graph {
	g.Blocks = slices.Clone(g.Blocks[:cap(g.Blocks)])
	for b := range g.Blocks {
		x := &g.Blocks[b]
		x.From, x.To = x.From[:cap(x.From)], x.To[:cap(x.To)]
		x.Phis, x.Code = slices.Clone(x.Phis[:cap(x.Phis)]), slices.Clone(x.Code[:cap(x.Code)])
		for n := range x.Phis {
			x.Phis[n].Args = x.Phis[n].Args[:cap(x.Phis[n].Args)]
		}
		for at := range x.Code {
			x.Code[at].Args = x.Code[at].Args[:cap(x.Code[at].Args)]
		}
	}
	return g
}

// lists are all lists of numbers of a graph.
func lists(g api.Graph) [][]int {
	var out [][]int
	for _, x := range g.Blocks {
		out = append(out, x.From, x.To)
		for _, p := range x.Phis {
			out = append(out, p.Args)
		}
		for _, i := range x.Code {
			out = append(out, i.Args)
		}
	}
	return out
}

// apart writes into each of some lists, and the room behind its end: no other one shows that.
func apart(t *testing.T, l [][]int) {
	t.Helper()
	for n, one := range l {
		for at := range one[:cap(one)] {
			one[:cap(one)][at] = n
		}
	}
	for n, one := range l {
		for _, have := range one[:cap(one)] {
			expect(t, "a list of its own", have, n)
		}
	}
}

// wipe writes into all that a graph has, and the room behind each end.
func wipe(g api.Graph) {
	for _, l := range lists(g) {
		for at := range l[:cap(l)] {
			l[:cap(l)][at] = -88
		}
	}
	for _, x := range g.Blocks {
		clear(x.Phis[:cap(x.Phis)])
		clear(x.Code[:cap(x.Code)])
	}
	clear(g.Blocks[:cap(g.Blocks)])
}

// R3, P14.1, P14.2: what is handed in is not changed, not kept, and not read behind its end.
func TestHandedIn(t *testing.T) {
	m := &maker{seed: 5}
	for range 800 {
		g := m.any(8)
		given, state := roomy(g), len(liveOf(g)[0]) > 0 && slices.Max(liveOf(g)[0]) >= g.Params
		before := written(whole(given))
		alive, err := ssa.Live(given)
		got, refusal := ssa.Of(given)
		f := program(given, graph(0, 1, block(nil, constant(0), back(0))))
		all, refusals := ssa.All(f)
		expect(t, "what was handed in", written(whole(given)), before)
		wipe(given)
		f.Mems[0], f.Locks[0], f.Funs[1] = api.Mem{}, "", api.Graph{}
		expect(t, "what is live, once it is gone", alive, liveOf(g))
		expect(t, "the errors", []api.Errno{err, refusal}, []api.Errno{api.OK, map[bool]api.Errno{true: api.ErrState}[state]})
		if state {
			continue
		}
		expect(t, "what came of it, once it is gone", got, once(t, g))
		if refusals == api.OK {
			expect(t, "what came of all, once it is gone", all, program(once(t, g), graph(0, 1, block(nil, constant(0), back(0)))))
		}
	}
	// All of a program leans on calls that fit; so it is asked of one that is known to.
	f := program(roomy(shapes()[6].g), roomy(shapes()[7].g))
	all, err := ssa.All(f)
	expect(t, "All", err, api.OK)
	for _, g := range f.Funs {
		wipe(g)
	}
	clear(f.Mems)
	clear(f.Locks)
	clear(f.Funs)
	expect(t, "all of a program, once it is gone", all, program(shapes()[6].want, shapes()[7].want))
}

// P14.1, R3: the Args of a call that is asked what it reads stand, and the answer is new.
func TestReadsOwn(t *testing.T) {
	args := append(list(4, 5), 6)[:2]
	i := call(1, args...)
	l := ssa.Reads(i)
	other := ssa.Reads(i)
	apart(t, [][]int{l, other})
	expect(t, "what was handed in", args[:3], list(4, 5, 6))
	args[0] = 9
	expect(t, "what is read now", ssa.Reads(i), list(9, 5))
}

// R3, P14.1, P14.2: what is handed out is new each time, its room too, and no two lists share any.
func TestHandedOut(t *testing.T) {
	m := &maker{seed: 6}
	for range 800 {
		g := m.any(8)
		var all [][]int
		var graphs []api.Graph
		for range 2 {
			all = append(all, live(t, g)...)
			if got, err := ssa.Of(g); err == api.OK {
				graphs = append(graphs, got)
				all = append(all, lists(got)...)
			}
			if f, err := ssa.All(program(g, g)); err == api.OK {
				graphs = append(graphs, f.Funs...)
				all = append(append(all, lists(f.Funs[0])...), lists(f.Funs[1])...)
			}
		}
		apart(t, all)
		apartParts(t, graphs)
		expect(t, "what is live, again", live(t, g), liveOf(g))
		if len(graphs) > 0 {
			expect(t, "what comes of it, again", of(t, g), once(t, g))
		}
	}
	f := program(shapes()[0].g)
	for range 2 {
		got, err := ssa.All(f)
		expect(t, "what comes of all", got, program(shapes()[0].want))
		expect(t, "All", err, api.OK)
		got.Mems[0].Name, got.Locks[0], got.Funs[0].Name = "", "", ""
	}
}

// apartParts writes into each block, instruction and Phi of some graphs, and the room behind its end: no other one shows that.
func apartParts(t *testing.T, l []api.Graph) {
	t.Helper()
	type part struct {
		ins  *api.Ins
		phi  *api.Phi
		mark int
	}
	var all []part
	for _, g := range l {
		for b := range g.Blocks {
			x := &g.Blocks[b]
			for at := range x.Code[:cap(x.Code)] {
				all = append(all, part{ins: &x.Code[:cap(x.Code)][at]})
			}
			for n := range x.Phis[:cap(x.Phis)] {
				all = append(all, part{phi: &x.Phis[:cap(x.Phis)][n]})
			}
		}
	}
	for n, p := range all {
		if p.ins != nil {
			*p.ins = api.Ins{R: n}
		} else {
			*p.phi = api.Phi{R: n}
		}
	}
	for n, p := range all {
		if p.ins != nil && p.ins.R != n || p.phi != nil && p.phi.R != n {
			t.Fatal("two parts share room")
		}
	}
}

// R2: the same graph asked twice, in between others, and by many at a time: the same answers.
func TestTwice(t *testing.T) {
	m := &maker{seed: 7}
	var all sync.WaitGroup
	for range 300 {
		g := m.withChoices(m.loose(8))
		if m.next(4) > 0 {
			g = m.any(10)
		}
		alive := live(t, g)
		got, err := ssa.Of(g)
		for range 2 {
			all.Go(func() {
				l, _ := ssa.Live(g)
				other, otherErr := ssa.Of(g)
				if written(l) != written(alive) || written(other) != written(got) || err != otherErr {
					t.Errorf("once more: %v, %v, %+v of %+v", l, otherErr, other, g)
				}
			})
		}
	}
	all.Wait()
}

// R1: whatever is handed in, each call answers.
func TestWhatever(t *testing.T) {
	m := &maker{seed: 8}
	may := map[bool]int{}
	for range 4000 {
		g := m.any(6)
		for range 1 + m.next(2) {
			m.spoil(&g)
		}
		is := flow.May(g)
		may[is]++
		_, err := ssa.Live(g)
		_, other := ssa.Of(g)
		all, refusal := ssa.All(api.Form{Funs: []api.Graph{g}})
		if (err == api.OK) != is || !is && (other != api.ErrForm || refusal != api.ErrForm) || refusal != api.OK && len(all.Funs) > 0 {
			t.Fatalf("%v, %v, %v of %+v", err, other, refusal, g)
		}
	}
	if may[true] < 300 || may[false] < 1500 {
		t.Error("graphs that may be, and may not:", may)
	}
	n := math.MinInt
	for _, i := range []api.Ins{{Op: 255, R: n, A: n, B: n, N: math.MinInt64, Args: list(n)}, {}, load(n, n), call(n, n, math.MaxInt)} {
		ssa.Reads(i)
		ssa.Sets(i)
		refused(t, api.Graph{Params: n, Regs: math.MaxInt, Blocks: []api.Block{{To: list(n), From: list(n), Phis: []api.Phi{phi(n, n)}, Code: []api.Ins{i}}}}, api.ErrForm)
	}
}

// spoil changes something of a graph.
func (m *maker) spoil(g *api.Graph) {
	n := pick(m, -1, 0, 1, 2, 3, len(g.Blocks), g.Regs, math.MinInt, math.MaxInt)
	b := m.next(len(g.Blocks))
	x := &g.Blocks[b]
	switch m.next(9) {
	case 0:
		g.Params = n
	case 1:
		g.Regs = n
	case 2:
		g.Thread = true
	case 3:
		x.To = append(slices.Clone(x.To), n)
	case 4:
		x.From = append(slices.Clone(x.From), n)
	case 5:
		x.Phis = append(slices.Clone(x.Phis), phi(n, n))
	case 6:
		if len(x.Code) > 0 {
			x.Code[m.next(len(x.Code))].A = n
		}
	case 7:
		if len(x.Code) > 0 {
			x.Code[m.next(len(x.Code))].Op = uint8(m.next(16))
		}
	case 8:
		x.Code = slices.Insert(x.Code, m.next(len(x.Code)+1), pick(m, show(n), jump(), back(0), call(0, n)))
	}
}

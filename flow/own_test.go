package flow_test

import (
	"math"
	"slices"
	"strconv"
	"testing"

	"bobbin/api"
	"bobbin/flow"
)

// change does something to a program of blocks, to its first graph, and to that one's block 1, behind which it is the same, or is not.
type change struct {
	what string
	same bool
	do   func(f *api.Form, g *api.Graph, x *api.Block)
}

func changes() []change {
	return []change{
		{"nothing", true, func(f *api.Form, g *api.Graph, x *api.Block) {}},
		{"empty lists", true, func(f *api.Form, g *api.Graph, x *api.Block) {
			g.Blocks[0] = api.Block{Phis: []api.Phi{}, Code: []api.Ins{}, From: blocks(), To: blocks(1)}
			f.Funs[1].Blocks, x.Phis[1].Args, x.Code[1].Args = []api.Block{}, blocks(), blocks()
		}},
		{"a Mem's name", false, func(f *api.Form, g *api.Graph, x *api.Block) { f.Mems[1].Name = "X" }},
		{"Size", false, func(f *api.Form, g *api.Graph, x *api.Block) { f.Mems[0].Size++ }},
		{"First", false, func(f *api.Form, g *api.Graph, x *api.Block) { f.Mems[0].First = -f.Mems[0].First }},
		{"a Mem less", false, func(f *api.Form, g *api.Graph, x *api.Block) { f.Mems = f.Mems[1:] }},
		{"a Mem more", false, func(f *api.Form, g *api.Graph, x *api.Block) { f.Mems = append(f.Mems, api.Mem{}) }},
		{"Mems turned about", false, func(f *api.Form, g *api.Graph, x *api.Block) { slices.Reverse(f.Mems) }},
		{"a lock's name", false, func(f *api.Form, g *api.Graph, x *api.Block) { f.Locks[1] = "L" }},
		{"a lock less", false, func(f *api.Form, g *api.Graph, x *api.Block) { f.Locks = f.Locks[:1] }},
		{"a lock more", false, func(f *api.Form, g *api.Graph, x *api.Block) { f.Locks = append(f.Locks, "") }},
		{"locks turned about", false, func(f *api.Form, g *api.Graph, x *api.Block) { slices.Reverse(f.Locks) }},
		{"a graph less", false, func(f *api.Form, g *api.Graph, x *api.Block) { f.Funs = f.Funs[:1] }},
		{"a graph more", false, func(f *api.Form, g *api.Graph, x *api.Block) { f.Funs = append(f.Funs, api.Graph{}) }},
		{"graphs turned about", false, func(f *api.Form, g *api.Graph, x *api.Block) { slices.Reverse(f.Funs) }},
		{"no graphs", false, func(f *api.Form, g *api.Graph, x *api.Block) { f.Funs = nil }},
		{"a graph's name", false, func(f *api.Form, g *api.Graph, x *api.Block) { g.Name = "F" }},
		{"Thread", false, func(f *api.Form, g *api.Graph, x *api.Block) { g.Thread = true }},
		{"Params", false, func(f *api.Form, g *api.Graph, x *api.Block) { g.Params++ }},
		{"Regs", false, func(f *api.Form, g *api.Graph, x *api.Block) { g.Regs-- }},
		{"a block less", false, func(f *api.Form, g *api.Graph, x *api.Block) { g.Blocks = g.Blocks[:2] }},
		{"a block more", false, func(f *api.Form, g *api.Graph, x *api.Block) { g.Blocks = append(g.Blocks, api.Block{}) }},
		{"blocks turned about", false, func(f *api.Form, g *api.Graph, x *api.Block) { slices.Reverse(g.Blocks) }},
		{"no blocks", false, func(f *api.Form, g *api.Graph, x *api.Block) { g.Blocks = nil }},
		{"another last block", false, func(f *api.Form, g *api.Graph, x *api.Block) { g.Blocks[2].Code[0].A++ }},
		{"a Phi's R", false, func(f *api.Form, g *api.Graph, x *api.Block) { x.Phis[1].R++ }},
		{"a Phi's Arg", false, func(f *api.Form, g *api.Graph, x *api.Block) { x.Phis[0].Args[1]++ }},
		{"a Phi's Arg less", false, func(f *api.Form, g *api.Graph, x *api.Block) { x.Phis[0].Args = x.Phis[0].Args[:1] }},
		{"a Phi's Arg more", false, func(f *api.Form, g *api.Graph, x *api.Block) { x.Phis[0].Args = append(x.Phis[0].Args, 0) }},
		{"a Phi's Args turned about", false, func(f *api.Form, g *api.Graph, x *api.Block) { slices.Reverse(x.Phis[0].Args) }},
		{"no Args of a Phi", false, func(f *api.Form, g *api.Graph, x *api.Block) { x.Phis[0].Args = nil }},
		{"a Phi less", false, func(f *api.Form, g *api.Graph, x *api.Block) { x.Phis = x.Phis[:1] }},
		{"a Phi more", false, func(f *api.Form, g *api.Graph, x *api.Block) { x.Phis = append(x.Phis, api.Phi{}) }},
		{"Phis turned about", false, func(f *api.Form, g *api.Graph, x *api.Block) { slices.Reverse(x.Phis) }},
		{"no Phis", false, func(f *api.Form, g *api.Graph, x *api.Block) { x.Phis = nil }},
		{"Op", false, func(f *api.Form, g *api.Graph, x *api.Block) { x.Code[0].Op++ }},
		{"R", false, func(f *api.Form, g *api.Graph, x *api.Block) { x.Code[0].R++ }},
		{"A", false, func(f *api.Form, g *api.Graph, x *api.Block) { x.Code[0].A += 1 << 32 }},
		{"B", false, func(f *api.Form, g *api.Graph, x *api.Block) { x.Code[0].B-- }},
		{"A and B turned about", false, func(f *api.Form, g *api.Graph, x *api.Block) { x.Code[0].A, x.Code[0].B = x.Code[0].B, x.Code[0].A }},
		{"N", false, func(f *api.Form, g *api.Graph, x *api.Block) { x.Code[0].N += 1 << 32 }},
		{"an Arg", false, func(f *api.Form, g *api.Graph, x *api.Block) { x.Code[0].Args[1]++ }},
		{"an Arg less", false, func(f *api.Form, g *api.Graph, x *api.Block) { x.Code[0].Args = x.Code[0].Args[:1] }},
		{"an Arg more", false, func(f *api.Form, g *api.Graph, x *api.Block) { x.Code[0].Args = append(x.Code[0].Args, 0) }},
		{"no Args", false, func(f *api.Form, g *api.Graph, x *api.Block) { x.Code[0].Args = nil }},
		{"an instruction less", false, func(f *api.Form, g *api.Graph, x *api.Block) { x.Code = x.Code[:1] }},
		{"an instruction more", false, func(f *api.Form, g *api.Graph, x *api.Block) { x.Code = append(x.Code, api.Ins{}) }},
		{"instructions turned about", false, func(f *api.Form, g *api.Graph, x *api.Block) { slices.Reverse(x.Code) }},
		{"no instructions", false, func(f *api.Form, g *api.Graph, x *api.Block) { x.Code = nil }},
		{"From", false, func(f *api.Form, g *api.Graph, x *api.Block) { x.From[0]-- }},
		{"one less in From", false, func(f *api.Form, g *api.Graph, x *api.Block) { x.From = x.From[:1] }},
		{"one more in From", false, func(f *api.Form, g *api.Graph, x *api.Block) { x.From = append(x.From, 3) }},
		{"From turned about", false, func(f *api.Form, g *api.Graph, x *api.Block) { slices.Reverse(x.From) }},
		{"no From", false, func(f *api.Form, g *api.Graph, x *api.Block) { x.From = nil }},
		{"To", false, func(f *api.Form, g *api.Graph, x *api.Block) { x.To[1]++ }},
		{"one less in To", false, func(f *api.Form, g *api.Graph, x *api.Block) { x.To = x.To[:1] }},
		{"one more in To", false, func(f *api.Form, g *api.Graph, x *api.Block) { x.To = append(x.To, 0) }},
		{"To turned about", false, func(f *api.Form, g *api.Graph, x *api.Block) { slices.Reverse(x.To) }},
		{"no To", false, func(f *api.Form, g *api.Graph, x *api.Block) { x.To = nil }},
		{"From and To", false, func(f *api.Form, g *api.Graph, x *api.Block) { x.From, x.To = x.To, x.From }},
	}
}

// odd is a program of blocks that may not be, with something in each field.
func odd() api.Form {
	x := api.Block{From: blocks(7, 8), To: blocks(2, 1)}
	x.Phis = []api.Phi{{R: 3, Args: blocks(4, 5)}, {R: 6}}
	x.Code = []api.Ins{{Op: 77, R: 1, A: 2, B: 3, N: 4, Args: blocks(5, 6)}, {Op: api.OJump}}
	return api.Form{
		Mems:  []api.Mem{{Name: "x", Size: 1, First: 4}, {Name: "a", Size: 9}},
		Locks: []string{"k", "l"},
		Funs:  []api.Graph{{Name: "f", Params: 1, Regs: 2, Blocks: []api.Block{block(nil, blocks(1)), x, block(nil, nil, back(2))}}, {Name: "t", Thread: true}},
	}
}

// P11.2, P11.6: the same, and what is not, in one thing alone, asked either way about; whether it may be is not asked.
func TestSame(t *testing.T) {
	for _, x := range changes() {
		f, other := odd(), odd()
		x.do(&other, &other.Funs[0], &other.Funs[0].Blocks[1])
		if flow.Same(f, other) != x.same || flow.Same(other, f) != x.same || !flow.Same(other, other) {
			t.Errorf("%s: the same, or not: not %v", x.what, x.same)
		}
		if len(other.Funs) == 0 {
			continue
		}
		a, b := f.Funs[0], other.Funs[0]
		same := written(a) == written(b)
		if flow.SameGraph(a, b) != same || flow.SameGraph(b, a) != same || !flow.SameGraph(b, b) {
			t.Errorf("%s: the same graph, or not: not %v", x.what, same)
		}
	}
	if !flow.Same(api.Form{}, api.Form{Mems: []api.Mem{}, Locks: []string{}, Funs: []api.Graph{}}) || !flow.SameGraph(api.Graph{}, api.Graph{Blocks: []api.Block{}}) {
		t.Error("empty lists")
	}
}

// P11.6: of what comes of a program, a block with an instruction less, or a graph with another name.
func TestLess(t *testing.T) {
	m := &maker{seed: 5}
	for range 200 {
		f := of(t, m.program())
		for fun, g := range f.Funs {
			for b, x := range g.Blocks {
				for at := range x.Code {
					other := clone(f)
					other.Funs[fun].Blocks[b].Code = slices.Delete(other.Funs[fun].Blocks[b].Code, at, at+1)
					expect(t, "an instruction less", []bool{flow.Same(f, other), flow.Same(other, f), flow.SameGraph(g, other.Funs[fun])}, []bool{false, false, false})
				}
			}
			other := clone(f)
			other.Funs[fun].Name += "x"
			expect(t, "another name", []bool{flow.Same(f, other), flow.Same(other, f), flow.SameGraph(other.Funs[fun], g)}, []bool{false, false, false})
			expect(t, "its own clone", flow.Same(clone(f), f), true)
		}
	}
}

// roomy is a program with something else in the room behind each end, that shares nothing with it.
func roomy(p api.Prog) api.Prog {
	p.Mems = append(slices.Clone(p.Mems), api.Mem{Name: "if"})[:len(p.Mems)]
	p.Locks = append(slices.Clone(p.Locks), "if", "else")[:len(p.Locks)]
	p.Funs = append(slices.Clone(p.Funs), api.Fun{Thread: true, Params: 3})[:len(p.Funs)]
	for fun := range p.Funs {
		f := &p.Funs[fun]
		f.Code = append(slices.Clone(f.Code), api.Ins{Op: 99}, branch(0, 0))[:len(f.Code)]
		for at := range f.Code {
			i := &f.Code[at]
			i.Args = append(slices.Clone(i.Args), -5, 9999)[:len(i.Args)]
		}
	}
	return p
}

// wipe writes into all that a program has, and the room behind each end.
func wipe(p api.Prog) {
	for fun := range p.Funs {
		l := p.Funs[fun].Code
		for at := range l {
			mark(l[at].Args, -88)
		}
		clear(l[:cap(l)])
	}
	clear(p.Mems[:cap(p.Mems)])
	clear(p.Locks[:cap(p.Locks)])
	clear(p.Funs[:cap(p.Funs)])
}

// mark writes a number into a list and the room behind its end.
func mark(l []int, n int) {
	l = l[:cap(l)]
	for at := range l {
		l[at] = n
	}
}

// R3, P11.1: what is handed in is not changed, not kept, and not read behind its end.
func TestHandedIn(t *testing.T) {
	m := &maker{seed: 6}
	for round := range 400 {
		p := m.program()
		if round == 0 {
			p = one(2, call(0, 1, 1), branch(0, 0), call(1, 1, 0), back(1))
		}
		q, want := roomy(p), written(formOf(p))
		f := of(t, q)
		expect(t, "the program", written(q), written(p))
		expect(t, "what comes of it", written(f), want)
		wipe(q)
		expect(t, "what came of it, once it is gone", written(f), want)
		// Both ask whether it may be, and whether it is the same, of lists with room behind their ends.
		wide := clone(f)
		for fun := range wide.Funs {
			g := &wide.Funs[fun]
			g.Blocks = append(g.Blocks, api.Block{From: blocks(0), To: blocks(99)})[:len(g.Blocks)]
			for b := range g.Blocks {
				x := &g.Blocks[b]
				x.Code, x.To = append(x.Code, api.Ins{Op: 99})[:len(x.Code)], append(x.To, 99)[:len(x.To)]
				x.From, x.Phis = append(x.From, -5)[:len(x.From)], append(x.Phis, api.Phi{R: -5})[:len(x.Phis)]
			}
		}
		wide.Mems, wide.Locks, wide.Funs = append(wide.Mems, api.Mem{})[:len(wide.Mems)], append(wide.Locks, "")[:len(wide.Locks)], append(wide.Funs, api.Graph{})[:len(wide.Funs)]
		if !flow.MayForm(wide) || !flow.Same(wide, f) || !flow.Same(f, wide) {
			t.Fatalf("with room behind its ends: %+v", f)
		}
		expect(t, "what was asked of", written(wide), want)
	}
}

// lists are all lists of numbers of a program of blocks.
func lists(f api.Form) [][]int {
	var out [][]int
	for _, g := range f.Funs {
		for _, x := range g.Blocks {
			out = append(out, x.From, x.To)
			for _, i := range x.Code {
				out = append(out, i.Args)
			}
		}
	}
	return out
}

// R3, P11.1: what is handed out is new, its room too; no two lists of it share any; nothing of a block runs into what is behind it.
func TestHandedOut(t *testing.T) {
	m := &maker{seed: 7}
	for round := range 400 {
		p := m.program()
		if round == 0 {
			p = one(2, call(0, 1, 1), branch(0, 0), call(1, 1, 0), back(1))
		}
		before, want := written(p), written(formOf(p))
		f, other := of(t, p), of(t, p)
		all := lists(f)
		for n, l := range all {
			mark(l, n)
		}
		for n, l := range all {
			for _, have := range l[:cap(l)] {
				expect(t, "a list of its own", have, n)
			}
		}
		apartCodes(t, f)
		clear(f.Mems[:cap(f.Mems)])
		clear(f.Locks[:cap(f.Locks)])
		for _, g := range f.Funs {
			clear(g.Blocks[:cap(g.Blocks)])
		}
		clear(f.Funs[:cap(f.Funs)])
		expect(t, "what was handed in", written(p), before)
		expect(t, "what came of it, too", written(other), want)
		expect(t, "what comes of it, again", written(of(t, p)), want)
	}
}

// apartCodes asks that nothing is seen in another block's Code of what is written into one, and behind its end.
func apartCodes(t *testing.T, f api.Form) {
	t.Helper()
	var codes [][]api.Ins
	for _, g := range f.Funs {
		for b, x := range g.Blocks {
			longer := append(x.Code, api.Ins{Op: 200})
			if b+1 < len(g.Blocks) && len(longer) > 0 && len(g.Blocks[b+1].Code) > 0 {
				expect(t, "the next block's first instruction is as it was", g.Blocks[b+1].Code[0].Op < 200, true)
			}
			codes = append(codes, x.Code)
		}
	}
	for n, l := range codes {
		for at := range l[:cap(l)] {
			l[:cap(l)][at] = api.Ins{N: int64(n)}
		}
	}
	for n, l := range codes {
		for _, i := range l[:cap(l)] {
			expect(t, "a Code of its own", i.N, int64(n))
		}
	}
}

// R1: whatever is handed in, each call answers.
func TestWhatever(t *testing.T) {
	m := &maker{seed: 8}
	for range 3000 {
		f, g := m.form(), m.graph()
		for range 12 {
			m.spoilForm(&f)
			m.spoilGraph(&g, api.Form{})
			for b := range g.Blocks {
				x := &g.Blocks[b]
				if m.next(4) == 0 {
					x.To, x.From = m.spoilList(x.To, 1), m.spoilList(x.From, 1)
				}
			}
			expect(t, "a graph", flow.May(g), okGraph(g))
			expect(t, "a program of blocks", flow.MayForm(f), okForm(f))
		}
	}
	n := math.MinInt
	for _, g := range []api.Graph{
		{Params: n, Regs: n, Blocks: make([]api.Block, 1)}, {Regs: math.MaxInt, Blocks: make([]api.Block, 3)},
		{Blocks: []api.Block{{To: blocks(n), From: blocks(n), Phis: []api.Phi{{R: n, Args: blocks(n)}}, Code: []api.Ins{{Op: 255, R: n, A: n, B: n, N: math.MinInt64, Args: blocks(n)}}}}},
	} {
		expect(t, "a graph", flow.May(g), false)
		expect(t, "a program of it", flow.MayForm(api.Form{Funs: []api.Graph{g}}), false)
		expect(t, "the same as itself", flow.SameGraph(g, g), true)
	}
}

// R1, Limits: lists that are shared, much larger than what they are stored in: each call ends soon.
func TestShared(t *testing.T) {
	const ins = api.MaxIns
	l := row(ins, call(0, 0, make([]int, api.MaxParams)...), nil)
	var p api.Prog
	for i := range 40 {
		p.Funs = append(p.Funs, api.Fun{Name: "f" + strconv.Itoa(i), Params: api.MaxParams, Regs: api.MaxRegs, Code: l})
	}
	f := of(t, p)
	expect(t, "how many instructions", len(f.Funs[39].Blocks[0].Code), ins)
	long := block(nil, nil, append(slices.Repeat([]api.Ins{show(0), call(0, 0, make([]int, 1<<22)...)}, ins), back(0))...)
	expect(t, "more Args than there may be", flow.May(api.Graph{Regs: 1, Blocks: []api.Block{long}}), false)
	wide := api.Block{From: upTo(1 << 20), To: upTo(1 << 20), Phis: slices.Repeat([]api.Phi{{Args: upTo(1 << 20)}}, 1<<10)}
	expect(t, "longer lists than there may be", flow.May(api.Graph{Regs: 1, Blocks: slices.Repeat([]api.Block{wide}, ins)}), false)
	expect(t, "more graphs than there may be", flow.MayForm(api.Form{Funs: slices.Repeat([]api.Graph{{Name: "f", Regs: 1, Blocks: slices.Repeat([]api.Block{wide}, ins)}}, 1000)}), false)
	expect(t, "the same", flow.Same(f, f), true)
}

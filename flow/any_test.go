package flow_test

import (
	"slices"
	"testing"

	"bobbin/api"
	"bobbin/code"
	"bobbin/flow"
)

// P11.1, P11.3 to P11.5: many programs and what comes of them, held together; one comes to each block from block 0.
func TestAnyProgram(t *testing.T) {
	m := &maker{seed: 1}
	left, ahead, most := 0, 0, 0
	for range 4000 {
		p := m.program()
		if !code.May(p) {
			t.Fatalf("made what may not be: %+v", p)
		}
		f := of(t, p)
		expect(t, "what comes of it", f, formOf(p))
		for fun, g := range f.Funs {
			held(t, p.Funs[fun], g)
			comesToAll(t, g.Blocks)
			if slices.Contains(comesTo(p.Funs[fun].Code), false) {
				left++
			}
			if len(g.Blocks[0].Code) == 0 {
				ahead++
			}
			most = max(most, len(g.Blocks))
		}
	}
	if left < 1000 || ahead < 1000 || most < 15 {
		t.Error("instructions left out, blocks ahead of all, the most blocks:", left, ahead, most)
	}
}

// comesToAll asks that one comes to each block from block 0.
func comesToAll(t *testing.T, l []api.Block) {
	t.Helper()
	met := []int{0}
	for at := 0; at < len(met); at++ {
		for _, to := range l[met[at]].To {
			if !slices.Contains(met, to) {
				met = append(met, to)
			}
		}
	}
	expect(t, "to how many blocks one comes", len(met), len(l))
}

// P11.1, P11.3 to P11.5: all Funs of few instructions, of all that goes somewhere, and of one that doesn't.
func TestAllSmall(t *testing.T) {
	for size := 1; size <= 5; size++ {
		some := []api.Ins{show(0), back(0)}
		for n := range size {
			some = append(some, jump(n), branch(0, n))
		}
		count := 1
		for range size {
			count *= len(some)
		}
		for n := range count {
			l := make([]api.Ins, size)
			for at := range l {
				l[at] = some[n%len(some)]
				n /= len(some)
			}
			if end := l[size-1].Op; end != api.OJump && end != api.OReturn {
				continue
			}
			p := api.Prog{Funs: []api.Fun{{Name: "f", Regs: 1, Code: l}}}
			if f := of(t, p); !flow.Same(f, formOf(p)) {
				t.Fatalf("%+v of %+v", f, l)
			}
		}
	}
}

// P11.2: made graphs, and such as were spoiled, against the chapter said in other words.
func TestAnyGraph(t *testing.T) {
	m := &maker{seed: 2}
	seen := map[bool]int{}
	for range 30000 {
		g := m.graph()
		if !flow.May(g) || !okGraph(g) {
			t.Fatalf("it may be: %+v", g)
		}
		for range 1 + m.next(2) {
			m.spoilGraph(&g, api.Form{})
		}
		want := okGraph(g)
		seen[want]++
		if flow.May(g) != want {
			t.Fatalf("not %v: %+v", want, g)
		}
	}
	if seen[true] < 4000 || seen[false] < 4000 {
		t.Error("graphs that may be, and may not:", seen)
	}
}

// P11.2: all graphs of three blocks, of all that ends a block, whatever is in To.
func TestAllGraphs(t *testing.T) {
	codes := [][]api.Ins{nil, {show(0)}, {jump(0)}, {branch(0, 0)}, {back(0)}}
	tos := [][]int{nil, {0}, {1}, {2}, {1, 1}, {1, 2}, {2, 1}, {2, 2}, {1, 0}, {0, 2}, {1, 2, 2}}
	kinds := len(codes) * len(tos)
	seen := map[bool]int{}
	for n := range kinds * kinds * kinds {
		l := make([]api.Block, 3)
		for b := range l {
			l[b] = api.Block{Code: codes[n%len(codes)], To: tos[n/len(codes)%len(tos)]}
			n /= kinds
		}
		settle(l)
		g := api.Graph{Regs: 1, Blocks: l}
		want := okGraph(g)
		seen[want]++
		if flow.May(g) != want {
			t.Fatalf("not %v: %+v", want, g)
		}
	}
	if seen[true] < 100 {
		t.Error("graphs that may be, and may not:", seen)
	}
}

// P11.2: made programs of blocks, and such as were spoiled, against the chapter said in other words.
func TestAnyForm(t *testing.T) {
	m := &maker{seed: 3}
	seen := map[bool]int{}
	for range 20000 {
		f := m.form()
		if !flow.MayForm(f) || !okForm(f) {
			t.Fatalf("it may be: %+v", f)
		}
		for range 1 + m.next(2) {
			m.spoilForm(&f)
		}
		want := okForm(f)
		seen[want]++
		if flow.MayForm(f) != want {
			t.Fatalf("not %v: %+v", want, f)
		}
	}
	if seen[true] < 3000 || seen[false] < 3000 {
		t.Error("programs of blocks that may be, and may not:", seen)
	}
}

// clone is a program of blocks that shares nothing with the one that it is made of.
func clone(f api.Form) api.Form {
	f.Mems, f.Locks, f.Funs = slices.Clone(f.Mems), slices.Clone(f.Locks), slices.Clone(f.Funs)
	for fun := range f.Funs {
		g := &f.Funs[fun]
		g.Blocks = slices.Clone(g.Blocks)
		for b := range g.Blocks {
			x := &g.Blocks[b]
			x.Phis, x.Code, x.From, x.To = slices.Clone(x.Phis), slices.Clone(x.Code), slices.Clone(x.From), slices.Clone(x.To)
			for n := range x.Phis {
				x.Phis[n].Args = slices.Clone(x.Phis[n].Args)
			}
			for at := range x.Code {
				x.Code[at].Args = slices.Clone(x.Code[at].Args)
			}
		}
	}
	return f
}

// P11.2, P11.6: made programs of blocks, that were spoiled or not, asked either way about.
func TestAnySame(t *testing.T) {
	m := &maker{seed: 4}
	seen := map[bool]int{}
	for round := range 6000 {
		f := m.form()
		if round%2 == 0 {
			f = of(t, m.program())
		}
		other := clone(f)
		if m.next(3) > 0 {
			m.spoilForm(&other)
		}
		same := written(f) == written(other)
		seen[same]++
		if flow.Same(f, other) != same || flow.Same(other, f) != same || !flow.Same(f, f) || !flow.Same(other, other) {
			t.Fatalf("not %v: %+v and %+v", same, f, other)
		}
		for fun := range min(len(f.Funs), len(other.Funs)) {
			a, b := f.Funs[fun], other.Funs[fun]
			same := written(a) == written(b)
			if flow.SameGraph(a, b) != same || flow.SameGraph(b, a) != same || !flow.SameGraph(b, b) {
				t.Fatalf("not %v: %+v and %+v", same, a, b)
			}
		}
	}
	if seen[true] < 1500 || seen[false] < 1500 {
		t.Error("the same, and not:", seen)
	}
}

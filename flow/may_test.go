package flow_test

import (
	"math"
	"slices"
	"strconv"
	"strings"
	"testing"

	"bobbin/api"
	"bobbin/flow"
)

// whole is a graph that may be: a loop, in which one goes to two blocks; 2 has no instructions, from 3 both ways lead to one;
// one does not come to 5 and 6, and to 6 nobody goes.
func whole() api.Graph {
	l := []api.Block{
		block(nil, blocks(1), constant(2, 5)),
		block(blocks(0, 4), blocks(2, 3), branch(3, 0)),
		block(blocks(1), blocks(4)),
		block(blocks(1), blocks(4, 4), show(4), branch(4, 0)),
		block(blocks(2, 3, 6), blocks(1), load(5, 3, -1), jump(0)),
		block(blocks(6), nil, back(1)),
		block(nil, blocks(5, 4), call(8, 7, 0, 1), branch(8, 0)),
	}
	l[1].Phis = []api.Phi{{R: 3, Args: []int{2, 5}}, {R: 4, Args: []int{2, 2}}}
	l[2].Phis = []api.Phi{{R: 5, Args: []int{3}}}
	l[4].Phis = []api.Phi{{R: 5, Args: []int{5, 4, 0}}}
	l[6].Phis = []api.Phi{{R: 7}}
	return api.Graph{Name: "f", Params: 2, Regs: 9, Blocks: l}
}

// may holds May, and the chapter in other words, against what it should say.
func may(t *testing.T, what string, g api.Graph, want bool) {
	t.Helper()
	if flow.May(g) != want || okGraph(g) != want {
		t.Errorf("%s: it may be, or not: not %v: %+v", what, want, g)
	}
}

// far are numbers that are none of any things' numbers.
func far() []int {
	return []int{math.MinInt, math.MinInt + 1, math.MinInt32, -1 << 32, -2, -1, 1 << 17, math.MaxInt32, 1 << 32, 1<<32 + 1, math.MaxInt}
}

// P11.2: a graph's head: Params, Regs, Thread, a name that is not asked, and no blocks.
func TestHead(t *testing.T) {
	may(t, "whole", whole(), true)
	may(t, "nothing", api.Graph{}, false)
	for _, name := range append(badNames(), "f", "z") {
		g := whole()
		g.Name = name
		may(t, "the name "+name, g, true)
	}
	for _, none := range [][]api.Block{nil, {}} {
		g := whole()
		g.Blocks = none
		may(t, "no blocks", g, false)
	}
	for _, n := range append(far(), upTo(12)...) {
		g := whole()
		g.Params = n
		may(t, "Params "+strconv.Itoa(n), g, 0 <= n && n <= api.MaxParams)
		g.Regs = n
		may(t, "Regs as many", g, false)
		g.Blocks = []api.Block{block(nil, blocks(1), constant(0, 1)), block(blocks(0), nil, back(0))}
		may(t, "Regs as many as Params, "+strconv.Itoa(n), g, 1 <= n && n <= api.MaxParams)
		g.Regs = n - 1
		may(t, "Regs fewer than Params", g, false)
		g.Regs, g.Thread = 9, true
		may(t, "Params of a Thread, "+strconv.Itoa(n), g, n == 0)
	}
	for _, n := range append(far(), 0, 1, 8, 9, 10, api.MaxRegs, api.MaxRegs+1, 4*api.MaxIns-1, 4*api.MaxIns, 4*api.MaxIns+1) {
		g := whole()
		g.Regs = n
		may(t, "Regs "+strconv.Itoa(n), g, 9 <= n && n <= 4*api.MaxIns)
		g.Params, g.Blocks = 0, []api.Block{block(nil, blocks(1)), block(blocks(0), blocks(2), acquire(0)), block(blocks(1, 2), blocks(2), jump(0))}
		may(t, "Regs where none is named, "+strconv.Itoa(n), g, 0 <= n && n <= 4*api.MaxIns)
	}
}

// upTo are the numbers from 0 on, as many as that.
func upTo(n int) []int {
	out := make([]int, n)
	for i := range out {
		out[i] = i
	}
	return out
}

// unchosen is a graph without its Phis, From as To says.
func unchosen(g api.Graph) api.Graph {
	settle(g.Blocks)
	for b := range g.Blocks {
		g.Blocks[b].Phis = nil
	}
	return g
}

// P11.2: numbers in To that are of no block, To with a number too many, too few, or none.
func TestTo(t *testing.T) {
	may(t, "without Phis", unchosen(whole()), true)
	for b, x := range whole().Blocks {
		refused := func(what string, to []int) {
			t.Helper()
			g := whole()
			g.Blocks[b].To = to
			may(t, what, g, false)
			may(t, what+", From as it says", unchosen(g), false)
		}
		for _, n := range append(far(), 7, 8) {
			for at := range x.To {
				to := slices.Clone(x.To)
				to[at] = n
				refused("To of "+strconv.Itoa(n), to)
			}
		}
		for n := range 5 {
			if n != len(x.To) {
				refused("To of "+strconv.Itoa(n)+" numbers", []int{1, 4, 5, 3}[:n])
			}
		}
	}
	g := whole()
	g.Blocks[6].To = blocks(4, 5)
	may(t, "To in another row", g, true)
	g.Blocks[6].To = blocks(4, 4)
	may(t, "To of one, twice", g, false)
	g.Blocks[5].From = nil
	may(t, "To of one, twice, and From", g, true)
}

// P11.2: From that lacks one, has one too many, one twice, another row, or a number of no block.
func TestFrom(t *testing.T) {
	for b, x := range whole().Blocks {
		var all [][]int
		for at := range x.From {
			all = append(all, slices.Delete(slices.Clone(x.From), at, at+1), slices.Insert(slices.Clone(x.From), at, x.From[at]))
		}
		for _, n := range append(far(), upTo(9)...) {
			if !slices.Contains(x.From, n) {
				all = append(all, append(slices.Clone(x.From), n), slices.Insert(slices.Clone(x.From), 0, n))
				sorted := append(slices.Clone(x.From), n)
				slices.Sort(sorted)
				all = append(all, sorted)
			}
			for at := range x.From {
				other := slices.Clone(x.From)
				other[at] = n
				if n != x.From[at] {
					all = append(all, other)
				}
			}
		}
		for at := range max(0, len(x.From)-1) {
			other := slices.Clone(x.From)
			other[at], other[at+1] = other[at+1], other[at]
			all = append(all, other)
		}
		for _, from := range all {
			g := whole()
			g.Blocks[b].From = from
			may(t, "From of another list", g, false)
			for n := range g.Blocks[b].Phis {
				g.Blocks[b].Phis[n].Args = make([]int, len(from))
			}
			may(t, "From of another list, and Phis by it", g, false)
		}
	}
	// From is as it should be, but one comes to block 0.
	for b, x := range whole().Blocks {
		for way := range x.To {
			g := whole()
			g.Blocks[b].To[way] = 0
			may(t, "one goes to block 0", unchosen(g), false)
		}
	}
	may(t, "block 0 to itself", api.Graph{Blocks: []api.Block{block(blocks(0), blocks(0), jump(0))}}, false)
	may(t, "block 0 to itself, From of none", api.Graph{Blocks: []api.Block{block(nil, blocks(0), jump(0))}}, false)
	may(t, "two blocks to themselves", api.Graph{Blocks: []api.Block{block(nil, blocks(1), jump(0)), block(blocks(0, 1), blocks(1), jump(0))}}, true)
}

// P11.2: what ends a block stands last in it alone; it goes to as many as its last instruction says.
func TestEnds(t *testing.T) {
	ends := map[uint8]int{api.OJump: 1, api.OBranch: 2, api.OReturn: 0}
	for _, i := range []api.Ins{jump(0), branch(0, 0), back(0), show(0), acquire(0), constant(0, 0)} {
		for _, before := range [][]api.Ins{nil, {show(0)}, {jump(0)}, {branch(0, 0)}, {back(0)}, {show(0), jump(0)}, {back(0), show(0)}, {show(0), show(0)}} {
			for n := range 4 {
				to := []int{1, 1, 2}[:n]
				l := []api.Block{block(nil, to, append(slices.Clone(before), i)...), block(nil, blocks(2)), block(nil, nil, back(0))}
				settle(l)
				count, is := ends[i.Op]
				if !is {
					count = 1
				}
				plain := !slices.ContainsFunc(before, func(i api.Ins) bool { return i.Op != api.OPrint })
				may(t, "a block's end", api.Graph{Regs: 1, Blocks: l}, plain && n == count)
				last := api.Graph{Regs: 1, Blocks: []api.Block{block(nil, blocks(1, 2), branch(0, 0)), block(blocks(0), nil, back(0)), l[0]}}
				last.Blocks[2].To = []int{1, 1, 1}[:n]
				settle(last.Blocks)
				may(t, "a later block's end", last, plain && n == count)
			}
		}
	}
	for n := range 4 {
		l := []api.Block{block(nil, []int{1, 1, 1}[:n]), block(nil, nil, back(0))}
		settle(l)
		may(t, "no instructions", api.Graph{Regs: 1, Blocks: l}, n == 1)
	}
}

// P11.2: blocks without instructions that lead to one another, in a row and in a circle, of whatever length.
func TestIdle(t *testing.T) {
	for n := 1; n < 9; n++ {
		row := []api.Block{block(nil, blocks(1), constant(0, 1))}
		for at := 1; at <= n; at++ {
			row = append(row, block(nil, blocks(at+1)))
		}
		row = append(row, block(nil, nil, back(0)))
		graph := func(change func(l []api.Block)) api.Graph {
			l := slices.Clone(row)
			for b := range l {
				l[b].To = slices.Clone(l[b].To)
			}
			change(l)
			settle(l)
			return api.Graph{Regs: 1, Blocks: l}
		}
		may(t, "a row", graph(func(l []api.Block) {}), true)
		may(t, "a row from block 0 on", graph(func(l []api.Block) { l[0].Code = nil }), true)
		may(t, "a row the other way", graph(func(l []api.Block) {
			l[0].To[0] = n
			for at := 1; at <= n; at++ {
				l[at].To[0] = at - 1
			}
			l[1].To[0] = n + 1
		}), true)
		for at := 1; at <= n; at++ {
			circle := func(l []api.Block) { l[n].To[0] = at }
			may(t, "a circle", graph(circle), false)
			apart := func(l []api.Block) { circle(l); l[0].To[0] = n + 1 }
			may(t, "a circle to which one does not come", graph(apart), false)
			may(t, "a circle, with an instruction in one of it", graph(func(l []api.Block) { circle(l); l[n].Code = []api.Ins{show(0)} }), true)
			may(t, "a circle, with an OJump in one of it", graph(func(l []api.Block) { circle(l); l[at].Code = []api.Ins{jump(0)} }), true)
			may(t, "a circle, with an instruction ahead of it", graph(func(l []api.Block) {
				circle(l)
				if at > 1 {
					l[at-1].Code = []api.Ins{show(0)}
				}
			}), false)
			g := graph(circle)
			g.Blocks[n].Phis = []api.Phi{{Args: make([]int, len(g.Blocks[n].From))}}
			may(t, "a circle, with a Phi in it", g, false)
		}
	}
	two := api.Graph{Regs: 1, Blocks: []api.Block{block(nil, blocks(1, 3), branch(0, 0)), block(nil, blocks(2)), block(nil, blocks(5), show(0)), block(nil, blocks(4)), block(nil, blocks(3)), block(nil, nil, back(0))}}
	settle(two.Blocks)
	may(t, "the second one of two is a circle", two, false)
	two.Blocks[4].To[0] = 2
	settle(two.Blocks)
	may(t, "both lead to one", two, true)
}

// P11.2: Phis, of each block's From, with an Arg too many, too few, none, of registers that are not there; in block 0 none.
func TestPhis(t *testing.T) {
	for b, x := range whole().Blocks {
		with := func(phi api.Phi) api.Graph {
			g := whole()
			g.Blocks[b].Phis = append(g.Blocks[b].Phis, phi)
			return g
		}
		count := len(x.From)
		for n := range 6 {
			may(t, strconv.Itoa(n)+" Args", with(api.Phi{R: 8, Args: make([]int, n)}), b > 0 && n == count)
		}
		for _, n := range append(far(), upTo(11)...) {
			want := b > 0 && 0 <= n && n < 9
			may(t, "R", with(api.Phi{R: n, Args: make([]int, count)}), want)
			for at := range count {
				args := make([]int, count)
				args[at] = n
				may(t, "an Arg", with(api.Phi{R: 1, Args: args}), want)
			}
		}
		same := with(api.Phi{R: 4, Args: make([]int, count)})
		same.Blocks[b].Phis = slices.Repeat(same.Blocks[b].Phis[len(same.Blocks[b].Phis)-1:], 3)
		may(t, "three times the same", same, b > 0)
	}
	none := api.Graph{Blocks: []api.Block{block(nil, nil, acquire(0), jump(0)), block(nil, blocks(1), jump(0))}}
	none.Blocks[0].To = blocks(1)
	settle(none.Blocks)
	may(t, "no registers", none, true)
	none.Blocks[1].Phis = []api.Phi{{Args: blocks(0, 0)}}
	may(t, "a Phi without registers", none, false)
}

// span is from where to where a field may be.
type span struct{ least, most int64 }

// fields is, of an operation, from where to where each field may be in a graph.
type fields struct {
	op         uint8
	r, a, b, n span
	args       bool
}

func table(regs int) []fields {
	reg, place := span{0, int64(regs) - 1}, span{-1, int64(regs) - 1}
	none, any, from0 := span{}, span{math.MinInt64, math.MaxInt64}, span{0, math.MaxInt64}
	return []fields{
		{op: api.OConst, r: reg, n: any},
		{op: api.OMove, r: reg, a: reg},
		{op: api.OUnary, r: reg, a: reg, n: span{int64(api.Neg), int64(api.Not)}},
		{op: api.OBinary, r: reg, a: reg, b: reg, n: span{int64(api.Add), int64(api.Or)}},
		{op: api.OLoad, r: reg, a: place, n: from0},
		{op: api.OStore, a: place, b: reg, n: from0},
		{op: api.OAcquire, n: from0},
		{op: api.ORelease, n: from0},
		{op: api.OPrint, a: reg},
		{op: api.OCall, r: reg, n: from0, args: true},
		{op: api.OJump, n: none},
		{op: api.OBranch, a: reg, n: none},
		{op: api.OReturn, a: reg},
	}
}

// around is a graph in which an instruction stands, where it may: ahead of an OJump, or last in its block.
func around(regs int, i api.Ins) api.Graph {
	l := []api.Block{block(nil, blocks(1)), block(nil, blocks(1, 2), i), block(nil, blocks(2), acquire(0), jump(0))}
	switch i.Op {
	case api.OReturn:
		l[1].To = nil
	case api.OBranch:
	case api.OJump:
		l[1].To = blocks(2)
	default:
		l[1].Code, l[1].To = []api.Ins{i, jump(0)}, blocks(2)
	}
	settle(l)
	return api.Graph{Regs: regs, Blocks: l}
}

// P11.2: of each operation each field at each edge, one below and one above it, and far away; also in graphs without registers.
func TestFields(t *testing.T) {
	for _, regs := range []int{0, 1, 7, api.MaxRegs + 1, 4 * api.MaxIns} {
		for _, x := range table(regs) {
			right := func() api.Ins {
				i := api.Ins{Op: x.op, R: int(x.r.most), A: int(x.a.most), B: int(x.b.most), N: x.n.most}
				if x.args {
					i.Args = []int{0, max(0, regs-1), 0}
				}
				return i
			}
			// Where there are no registers nothing may be that names one.
			fine := regs > 0 || slices.Contains([]uint8{api.OAcquire, api.ORelease, api.OJump}, x.op)
			hold := func(i api.Ins, want bool) {
				t.Helper()
				may(t, "in "+strconv.Itoa(regs)+" registers "+written(i), around(regs, i), want && fine)
			}
			hold(right(), true)
			field := func(s span, put func(i *api.Ins, n int64)) {
				t.Helper()
				for _, n := range []int64{s.least - 1, s.least, s.most, s.most + 1, -1, 0, 1, math.MinInt64, math.MaxInt64, math.MinInt32, 1 << 32, -1 << 32} {
					i := right()
					put(&i, n)
					hold(i, s.least <= n && n <= s.most)
				}
			}
			field(x.r, func(i *api.Ins, n int64) { i.R = int(n) })
			field(x.a, func(i *api.Ins, n int64) { i.A = int(n) })
			field(x.b, func(i *api.Ins, n int64) { i.B = int(n) })
			field(x.n, func(i *api.Ins, n int64) { i.N = n })
			for at := range right().Args {
				field(span{0, int64(regs) - 1}, func(i *api.Ins, n int64) { i.Args[at] = int(n) })
			}
			for n := range 12 {
				i := right()
				i.Args = make([]int, n)
				hold(i, n == 0 || x.args && n <= api.MaxParams)
			}
		}
	}
	for op := range 256 {
		if op < int(api.OConst) || op > int(api.OReturn) {
			may(t, "no operation", around(7, api.Ins{Op: uint8(op)}), false)
			may(t, "no operation", around(7, api.Ins{Op: uint8(op), R: 1, A: 1, N: 1}), false)
		}
	}
}

// P11.2, Limits: as many blocks as there may be, and one more; in a row, without instructions, from all to one.
func TestManyBlocks(t *testing.T) {
	const most = 2 * api.MaxIns
	for n := most - 1; n <= most+1; n++ {
		row, star := make([]api.Block, n), make([]api.Block, n)
		for b := range n - 1 {
			row[b].To, star[b] = blocks(b+1), block(nil, blocks(n-1))
			row[b+1].From = blocks(b)
		}
		row[n-1].Code, star[n-1].Code = []api.Ins{back(0)}, []api.Ins{back(0)}
		star[n-1].From = upTo(n - 1)
		star[n-1].Phis = []api.Phi{{Args: make([]int, n-1)}}
		expect(t, strconv.Itoa(n)+" blocks in a row", flow.May(api.Graph{Regs: 1, Blocks: row}), n <= most)
		expect(t, strconv.Itoa(n)+" blocks to one", flow.May(api.Graph{Regs: 1, Blocks: star}), n <= most)
		star[n-1].Phis[0].Args = make([]int, n-2)
		expect(t, "an Arg less", flow.May(api.Graph{Regs: 1, Blocks: star}), false)
		row[n-1].Code, row[n-1].To, row[1].From = nil, blocks(1), blocks(0, n-1)
		expect(t, "a circle", flow.May(api.Graph{Regs: 1, Blocks: row}), false)
		row[n/2].Code = []api.Ins{jump(0)}
		expect(t, "a circle with an OJump in it", flow.May(api.Graph{Regs: 1, Blocks: row}), n <= most)
	}
	many := slices.Repeat([]api.Ins{show(0)}, 20*api.MaxIns)
	expect(t, "many instructions", flow.May(api.Graph{Regs: 1, Blocks: []api.Block{block(nil, nil, append(many, back(0))...)}}), true)
}

// full is a program of blocks that may be, in which the edges are apart: 2 Mems, 3 locks, 4 Funs, of which 1 is a Thread.
func full() api.Form {
	end := []api.Block{block(nil, nil, back(0))}
	return api.Form{
		Mems:  []api.Mem{{Name: "x", Size: 1, First: 4}, {Name: "a", Size: 9}},
		Locks: []string{"k", "l", "m"},
		Funs: []api.Graph{
			{Name: "f", Params: 2, Regs: 2, Blocks: end},
			{Name: "t", Thread: true, Regs: 9, Blocks: []api.Block{
				block(nil, blocks(1), call(1, 0, 1, 2), load(3, 1, 2)), block(blocks(0), nil, store(0, -1, 3), acquire(2), release(0), call(1, 3), back(1))}},
			{Name: "g", Params: api.MaxParams, Regs: 4 * api.MaxIns, Blocks: end},
			{Name: "h", Regs: 1, Blocks: end},
		},
	}
}

// mayForm holds MayForm, and the chapter in other words, against what it should say.
func mayForm(t *testing.T, what string, f api.Form, want bool) {
	t.Helper()
	if flow.MayForm(f) != want || okForm(f) != want {
		t.Errorf("%s: it may be, or not: not %v: %+v", what, want, f)
	}
}

// P11.2: numbers of instructions are of Mems, of locks, and of Funs that are no Threads, with as many Params as there are Args.
func TestNumbers(t *testing.T) {
	mayForm(t, "full", full(), true)
	for fun, g := range full().Funs {
		for _, n := range append(far(), upTo(7)...) {
			hold := func(i api.Ins, want bool) {
				t.Helper()
				f := full()
				b := len(g.Blocks) - 1
				f.Funs[fun].Blocks[b].Code = slices.Insert(slices.Clone(g.Blocks[b].Code), 0, i)
				mayForm(t, "with "+written(i), f, want)
				f.Funs[fun].Blocks[b].Code = g.Blocks[b].Code
			}
			hold(load(0, n, -1), n == 0 || n == 1)
			hold(store(n, 0, 0), n == 0 || n == 1)
			hold(acquire(n), 0 <= n && n < 3)
			hold(release(n), 0 <= n && n < 3)
			for args := range 10 {
				hold(call(0, n, make([]int, args)...), n == 0 && args == 2 || n == 2 && args == 8 || n == 3 && args == 0)
			}
		}
	}
	none := full()
	none.Mems = nil
	mayForm(t, "no Mems", none, false)
	none = full()
	none.Locks = nil
	mayForm(t, "no locks", none, false)
	none.Funs[1].Blocks[1].Code = []api.Ins{back(1)}
	mayForm(t, "no locks, and none taken", none, true)
	none = full()
	none.Funs = none.Funs[:3]
	mayForm(t, "a Fun less", none, false)
	none.Funs[1].Blocks = []api.Block{block(nil, nil, back(1))}
	mayForm(t, "a Fun less, and none called", none, true)
	for _, none := range []api.Form{{}, {Mems: []api.Mem{}, Locks: []string{}, Funs: []api.Graph{}}, {Mems: full().Mems}, {Locks: full().Locks}} {
		mayForm(t, "no Funs", none, true)
	}
}

// P11.2: names, Mems, and how many Threads there are; graphs that may not be, wherever they stand.
func TestMayForm(t *testing.T) {
	places := func(f *api.Form) []*string {
		return []*string{&f.Mems[0].Name, &f.Mems[1].Name, &f.Locks[0], &f.Locks[2], &f.Funs[0].Name, &f.Funs[1].Name, &f.Funs[3].Name}
	}
	for at := range 7 {
		for _, name := range append(badNames(), "z", "_", "If", strings.Repeat("n", api.MaxName)) {
			f := full()
			*places(&f)[at] = name
			mayForm(t, "the name "+name, f, !slices.Contains(badNames(), name))
		}
		for other := range 7 {
			f := full()
			l := places(&f)
			*l[at] = *l[other]
			mayForm(t, "a name twice", f, at == other)
		}
	}
	for _, n := range append(far(), 0, 1, 2, api.MaxSize, api.MaxSize+1) {
		for at := range full().Mems {
			f := full()
			f.Mems[at].Size = n
			mayForm(t, "Size "+strconv.Itoa(n), f, 1 <= n && n <= api.MaxSize)
		}
	}
	for _, n := range []int64{math.MinInt64, 0, math.MaxInt64} {
		f := full()
		f.Mems[1].First = n
		mayForm(t, "First", f, true)
	}
	end := []api.Block{block(nil, nil, back(0))}
	for _, n := range []int{0, 1, api.MaxThreads - 1, api.MaxThreads, api.MaxThreads + 1, 200} {
		var f api.Form
		for i := range n {
			f.Funs = append(f.Funs, api.Graph{Name: "t" + strconv.Itoa(i), Thread: true, Regs: 1, Blocks: end})
		}
		mayForm(t, strconv.Itoa(n)+" Threads", f, n <= api.MaxThreads)
	}
	for n := api.MaxDecls - 1; n <= api.MaxDecls+1; n++ {
		mems, locks, funs := full(), full(), full()
		for i := range n - 9 {
			name := "more" + strconv.Itoa(i)
			mems.Mems = append(mems.Mems, api.Mem{Name: name, Size: 1})
			locks.Locks = append(locks.Locks, name)
			funs.Funs = append(funs.Funs, api.Graph{Name: name, Regs: 1, Blocks: end})
		}
		for _, f := range []api.Form{mems, locks, funs} {
			mayForm(t, strconv.Itoa(n)+" names", f, n <= api.MaxDecls)
		}
	}
	for fun := range full().Funs {
		for what, spoil := range map[string]func(g *api.Graph){
			"Params":          func(g *api.Graph) { g.Params = -1 },
			"too many Params": func(g *api.Graph) { g.Params, g.Regs = 9, 9 },
			"Regs":            func(g *api.Graph) { g.Regs = 4*api.MaxIns + 1 },
			"few Regs":        func(g *api.Graph) { g.Regs, g.Params = 0, 0 },
			"no blocks":       func(g *api.Graph) { g.Blocks = nil },
			"From":            func(g *api.Graph) { g.Blocks[0].From = blocks(0) },
			"To":              func(g *api.Graph) { g.Blocks[len(g.Blocks)-1].To = blocks(0) },
			"a register":      func(g *api.Graph) { g.Blocks[0].Code = []api.Ins{back(g.Regs)} },
			"a Phi":           func(g *api.Graph) { g.Blocks[0].Phis = []api.Phi{{}} },
			"an N":            func(g *api.Graph) { g.Blocks = []api.Block{block(nil, nil, api.Ins{Op: api.OReturn, N: 1})} },
			"an OJump's N": func(g *api.Graph) {
				g.Blocks = []api.Block{block(nil, blocks(1)), block(blocks(0, 1), blocks(1), jump(1))}
			},
		} {
			f := clone(full())
			spoil(&f.Funs[fun])
			mayForm(t, what, f, false)
		}
	}
	loop := clone(full())
	loop.Funs[0].Blocks[0].Code = []api.Ins{call(0, 0, 0, 1), call(0, 3), back(0)}
	loop.Funs[3].Blocks[0].Code = []api.Ins{call(0, 0, 0, 0), back(0)}
	mayForm(t, "Funs that call one another in a circle", loop, true)
}

package flow_test

import (
	"fmt"
	"slices"
	"strconv"
	"testing"

	"bobbin/api"
	"bobbin/code"
	"bobbin/flat"
	"bobbin/flow"
	"bobbin/parse"
)

// expect holds two things of one type against each other, all that is in them; an empty list may be nil.
func expect[T any](t *testing.T, what string, got, want T) {
	t.Helper()
	if g, w := fmt.Sprintf("%+v", got), fmt.Sprintf("%+v", want); g != w {
		t.Fatalf("%s: %s, not %s", what, g, w)
	}
}

// made is the program of a text.
func made(t *testing.T, s string) api.Prog {
	t.Helper()
	l, at, err := parse.Parse(s)
	if err != api.OK {
		t.Fatalf("%q can't be read: %v at %d", s, err, at)
	}
	p, err := flat.Make(l)
	if err != api.OK {
		t.Fatalf("%q can't be made: %v", s, err)
	}
	return p
}

// of is what comes of a program, that must not be refused.
func of(t *testing.T, p api.Prog) api.Form {
	t.Helper()
	f, err := flow.Of(p)
	if err != api.OK {
		t.Fatalf("Of: %v of %+v", err, p)
	}
	if !flow.MayForm(f) {
		t.Fatalf("what comes of it may not be: %+v", f)
	}
	return f
}

// one is a program of one thread, with a global, an array, two locks and a func of one parameter.
func one(regs int, l ...api.Ins) api.Prog {
	return api.Prog{Mems: []api.Mem{{Name: "x", Size: 1, First: 7}, {Name: "a", Size: 3}}, Locks: []string{"k", "l"}, Funs: []api.Fun{
		{Name: "t", Thread: true, Regs: regs, Code: l}, {Name: "f", Params: 1, Regs: 1, Code: []api.Ins{back(0)}}}}
}

// block is a block without Phis: from where one comes, to where one goes, its instructions.
func block(from, to []int, l ...api.Ins) api.Block { return api.Block{From: from, To: to, Code: l} }

func blocks(l ...int) []int { return l }

// P11.1: the chapter's example.
func TestExample(t *testing.T) {
	p := made(t, "thread t { while true { } }")
	expect(t, "the instructions", p.Funs[0].Code, []api.Ins{constant(0, 1), branch(0, 3), jump(0), constant(1, 0), back(1)})
	f := of(t, p)
	expect(t, "the blocks", f, api.Form{Funs: []api.Graph{{Name: "t", Thread: true, Regs: 2, Blocks: []api.Block{
		block(nil, blocks(1)),
		block(blocks(0, 2), blocks(2, 3), constant(0, 1), branch(0, 0)),
		block(blocks(1), blocks(1), jump(0)),
		block(blocks(1), nil, constant(1, 0), back(1)),
	}}}})
}

// cutting is a Fun's instructions, and the blocks that come of them.
type cutting struct {
	what string
	ins  []api.Ins
	want []api.Block
}

// P11.1, P11.4, P11.5: how instructions are cut, at the chapter's edges.
func TestCut(t *testing.T) {
	c, d, e := constant(0, 5), show(0), back(0)
	b, j := branch(0, 0), jump(0)
	for _, x := range []cutting{
		{"one instruction", []api.Ins{e}, []api.Block{block(nil, nil, e)}},
		{"a row of them", []api.Ins{c, d, call(0, 1, 0), load(0, 1, 0), store(0, -1, 0), acquire(1), release(1), e},
			[]api.Block{block(nil, nil, c, d, call(0, 1, 0), load(0, 1, 0), store(0, -1, 0), acquire(1), release(1), e)}},
		{"an OJump to itself alone", []api.Ins{j}, []api.Block{block(nil, blocks(1)), block(blocks(0, 1), blocks(1), j)}},
		{"an OJump to itself, later", []api.Ins{c, jump(1)}, []api.Block{block(nil, blocks(1), c), block(blocks(0, 1), blocks(1), j)}},
		{"an OJump to the instruction behind it", []api.Ins{jump(1), e}, []api.Block{block(nil, blocks(1), j), block(blocks(0), nil, e)}},
		{"an OJump back to the first one", []api.Ins{c, d, jump(0)}, []api.Block{block(nil, blocks(1)), block(blocks(0, 1), blocks(1), c, d, j)}},
		{"an OBranch back to the first one", []api.Ins{c, branch(0, 0), e},
			[]api.Block{block(nil, blocks(1)), block(blocks(0, 1), blocks(2, 1), c, b), block(blocks(1), nil, e)}},
		{"an OBranch to itself, as the first one", []api.Ins{branch(0, 0), e},
			[]api.Block{block(nil, blocks(1)), block(blocks(0, 1), blocks(2, 1), b), block(blocks(1), nil, e)}},
		{"an OBranch to itself, later", []api.Ins{c, branch(0, 1), e},
			[]api.Block{block(nil, blocks(1), c), block(blocks(0, 1), blocks(2, 1), b), block(blocks(1), nil, e)}},
		{"an OBranch to the instruction behind it", []api.Ins{c, branch(0, 2), e}, []api.Block{block(nil, blocks(1, 1), c, b), block(blocks(0), nil, e)}},
		{"the next one is jumped to", []api.Ins{c, d, jump(1)}, []api.Block{block(nil, blocks(1), c), block(blocks(0, 1), blocks(1), d, j)}},
		{"a choice of one side", []api.Ins{c, branch(0, 3), d, e},
			[]api.Block{block(nil, blocks(1, 2), c, b), block(blocks(0), blocks(2), d), block(blocks(0, 1), nil, e)}},
		{"a choice of two sides", []api.Ins{c, branch(0, 4), d, jump(5), c, e}, []api.Block{
			block(nil, blocks(1, 2), c, b), block(blocks(0), blocks(3), d, j), block(blocks(0), blocks(3), c), block(blocks(1, 2), nil, e)}},
		{"a loop in a loop", []api.Ins{c, branch(0, 6), branch(0, 5), d, jump(2), jump(1), e}, []api.Block{
			block(nil, blocks(1), c), block(blocks(0, 4), blocks(2, 5), b), block(blocks(1, 3), blocks(3, 4), b), block(blocks(2), blocks(2), d, j),
			block(blocks(2), blocks(1), j), block(blocks(1), nil, e)}},
		{"behind an OReturn", []api.Ins{c, e, d, c, e}, []api.Block{block(nil, nil, c, e)}},
		{"behind an OJump", []api.Ins{jump(3), d, c, e}, []api.Block{block(nil, blocks(1), j), block(blocks(0), nil, e)}},
		{"one comes from there alone", []api.Ins{e, c, branch(0, 4), d, jump(1)}, []api.Block{block(nil, nil, e)}},
		{"one comes back to there", []api.Ins{jump(3), c, branch(0, 3), d, branch(0, 1), e}, []api.Block{
			block(nil, blocks(2), j), block(blocks(2), blocks(2, 2), c, b), block(blocks(0, 1), blocks(3, 1), d, b), block(blocks(2), nil, e)}},
		{"an OJump there, to one in the midst", []api.Ins{c, d, e, jump(1)}, []api.Block{block(nil, blocks(1), c), block(blocks(0), nil, d, e)}},
		{"an OJump there, to the first one", []api.Ins{c, e, d, jump(0)}, []api.Block{block(nil, blocks(1)), block(blocks(0), nil, c, e)}},
		{"an OBranch there, to the first one", []api.Ins{e, branch(0, 0), e}, []api.Block{block(nil, blocks(1)), block(blocks(0), nil, e)}},
		{"ways there to where one comes", []api.Ins{jump(4), d, branch(0, 4), jump(4), c, e}, []api.Block{block(nil, blocks(1), j), block(blocks(0), nil, c, e)}},
		{"one runs from there to where one comes", []api.Ins{jump(2), d, c, e}, []api.Block{block(nil, blocks(1), j), block(blocks(0), nil, c, e)}},
		{"numbers behind what is left out", []api.Ins{branch(0, 4), jump(5), d, jump(0), c, branch(0, 8), d, c, jump(1)}, []api.Block{
			block(nil, blocks(1)), block(blocks(0), blocks(2, 3), b), block(blocks(1, 6), blocks(4), j), block(blocks(1), blocks(4), c),
			block(blocks(2, 3), blocks(5, 6), b), block(blocks(4), blocks(6), d, c), block(blocks(4, 5), blocks(2), j)}},
		{"many ways to one", []api.Ins{branch(0, 4), branch(0, 4), branch(0, 4), branch(0, 4), e}, []api.Block{
			block(nil, blocks(1, 4), b), block(blocks(0), blocks(2, 4), b), block(blocks(1), blocks(3, 4), b), block(blocks(2), blocks(4, 4), b),
			block(blocks(0, 1, 2, 3), nil, e)}},
	} {
		p := one(1, x.ins...)
		g := of(t, p).Funs[0]
		expect(t, x.what, g.Blocks, x.want)
		expect(t, x.what+", in other words", blocked(x.ins), x.want)
		held(t, p.Funs[0], g)
	}
}

// held holds a Fun and what comes of it against each other: instruction by instruction, and way by way.
func held(t *testing.T, f api.Fun, g api.Graph) {
	t.Helper()
	if g.Name != f.Name || g.Thread != f.Thread || g.Params != f.Params || g.Regs != f.Regs {
		t.Fatalf("%+v of %+v", g, f)
	}
	first, last := placed(t, f, g.Blocks)
	for b, x := range g.Blocks {
		var to []int
		for _, way := range x.To {
			to = append(to, first[way])
		}
		want := []int{0}
		if last[b] >= 0 {
			want = goesTo(f.Code, last[b])
		}
		expect(t, "where one goes to from the block "+strconv.Itoa(b), to, want)
		if b == 0 != (len(x.From) == 0) {
			t.Fatalf("the block %d comes from %v", b, x.From)
		}
		for other, y := range g.Blocks {
			if slices.Contains(x.From, other) != slices.Contains(y.To, b) || !slices.IsSorted(x.From) || len(slices.Compact(slices.Clone(x.From))) != len(x.From) {
				t.Fatalf("the block %d comes from %v: %+v", b, x.From, g.Blocks)
			}
		}
	}
}

// placed holds the instructions of all blocks, one behind the other, against those to which one comes: it tells of each block which
// one was its first one, and its last one (-1, if it has none).
func placed(t *testing.T, f api.Fun, l []api.Block) (first, last []int) {
	t.Helper()
	var rest []int
	for at, come := range comesTo(f.Code) {
		if come {
			rest = append(rest, at)
		}
	}
	for b, x := range l {
		if len(x.Phis) > 0 || len(x.Code) > len(rest) || len(x.Code) == 0 && (b > 0 || !isGoal(f.Code, 0)) {
			t.Fatalf("the block %d: %+v of %+v", b, l, f)
		}
		first, last = append(first, rest[0]), append(last, -1)
		for within, i := range x.Code {
			at := rest[0]
			expect(t, "an instruction of the block "+strconv.Itoa(b), i, stripped(f.Code[at]))
			if (within == 0) != isBegin(f.Code, at) || within > 0 && at != last[b]+1 {
				t.Fatalf("the block %d does not begin where it should: %+v of %+v", b, l, f)
			}
			last[b], rest = at, rest[1:]
		}
	}
	if len(rest) > 0 {
		t.Fatalf("these are left: %v of %+v", rest, f)
	}
	return first, last
}

// P11.1, P11.3: programs that have nothing, or no Funs; names, Mems and locks are what they were.
func TestFew(t *testing.T) {
	for _, p := range []api.Prog{
		{}, {Mems: []api.Mem{}, Locks: []string{}, Funs: []api.Fun{}}, {Mems: one(1).Mems}, {Locks: []string{"k", "l"}},
		{Mems: one(1).Mems, Locks: one(1).Locks},
	} {
		expect(t, "of no Funs", of(t, p), api.Form{Mems: p.Mems, Locks: p.Locks})
	}
	f := of(t, one(3, constant(2, 1), back(2)))
	expect(t, "of some", f, api.Form{Mems: one(1).Mems, Locks: one(1).Locks, Funs: []api.Graph{
		{Name: "t", Thread: true, Regs: 3, Blocks: []api.Block{block(nil, nil, constant(2, 1), back(2))}},
		{Name: "f", Params: 1, Regs: 1, Blocks: []api.Block{block(nil, nil, back(0))}},
	}})
}

// P11.1, P11.3 to P11.5: programs of texts, of which nothing is left out, are what they were.
func TestTexts(t *testing.T) {
	for _, x := range []struct {
		text   string
		blocks []int // of each Fun
	}{
		{"", nil},
		{"thread t { }", []int{1}},
		{"func f(p) { return p; } thread t { var v = call f(1); print v; }", []int{1, 1}},
		{"thread t { if true { print 1; } }", []int{3}},
		{"thread t { if true { print 1; } else { print 2; } }", []int{4}},
		{"thread t { if true { } }", []int{2}},
		{"thread t { if true { } else { } }", []int{2}},
		{"thread t { if true { } else { print 1; } }", []int{4}},
		{"thread t { while true { } }", []int{4}},
		{"thread t { print 1; while true { } }", []int{4}},
		{"func f() { while true { while false { } } } thread t { while true { while false { print 1; } print 2; } print 3; }", []int{6, 6}},
		{"thread t { while true { if true { while true { } } else { print 1; } } }", []int{9}},
		{"lock k; global x = 1; thread t { with k { if x < 1 { x = 2; } } } thread u { with k { while x < 1 { with k { } } } }", []int{3, 4}},
		{"array a[3]; thread t { var n = 3; while 0 < n { n = n - 1; a[n] = n; print a[n]; } }", []int{4}},
	} {
		p := made(t, x.text)
		f := of(t, p)
		var count []int
		for fun, g := range f.Funs {
			count = append(count, len(g.Blocks))
			held(t, p.Funs[fun], g)
		}
		expect(t, x.text, count, x.blocks)
		expect(t, x.text, f, formOf(p))
	}
}

// P11.1: programs that may not be.
func TestForm(t *testing.T) {
	whole := func() api.Prog { return one(2, constant(1, 5), branch(1, 3), jump(0), back(1)) }
	of(t, whole())
	for what, spoil := range map[string]func(p *api.Prog){
		"no instructions":               func(p *api.Prog) { p.Funs[1].Code = nil },
		"an OBranch at the end":         func(p *api.Prog) { p.Funs[0].Code[3] = branch(1, 0) },
		"an OPrint at the end":          func(p *api.Prog) { p.Funs[0].Code[3] = show(1) },
		"a goal behind the end":         func(p *api.Prog) { p.Funs[0].Code[2].N = 4 },
		"a goal far behind the end":     func(p *api.Prog) { p.Funs[0].Code[1].N = 1 << 40 },
		"a goal ahead of all":           func(p *api.Prog) { p.Funs[0].Code[2].N = -1 },
		"a register too great":          func(p *api.Prog) { p.Funs[0].Code[0].R = 2 },
		"a register below 0":            func(p *api.Prog) { p.Funs[1].Code[0].A = -1 },
		"no operation":                  func(p *api.Prog) { p.Funs[0].Code[0].Op = 0 },
		"an operation that is none":     func(p *api.Prog) { p.Funs[0].Code[0].Op = 14 },
		"something that is not named":   func(p *api.Prog) { p.Funs[0].Code[3].R = 1 },
		"an Arg that is not named":      func(p *api.Prog) { p.Funs[0].Code[3].Args = blocks(0) },
		"a Mem that is not there":       func(p *api.Prog) { p.Funs[0].Code[0] = load(0, 2, -1) },
		"a lock that is not there":      func(p *api.Prog) { p.Funs[0].Code[0] = acquire(2) },
		"a call of a Thread":            func(p *api.Prog) { p.Funs[1].Code = []api.Ins{call(0, 0), back(0)} },
		"an Arg too few":                func(p *api.Prog) { p.Funs[0].Code[0] = call(0, 1) },
		"Params of a Thread":            func(p *api.Prog) { p.Funs[0].Params = 1 },
		"Params below 0":                func(p *api.Prog) { p.Funs[1].Params = -1 },
		"too many Params":               func(p *api.Prog) { p.Funs[1].Params, p.Funs[1].Regs = 9, 9 },
		"fewer Regs than Params":        func(p *api.Prog) { p.Funs[1].Code, p.Funs[1].Regs = []api.Ins{jump(0)}, 0 },
		"too many Regs":                 func(p *api.Prog) { p.Funs[0].Regs = api.MaxRegs + 1 },
		"no name":                       func(p *api.Prog) { p.Funs[0].Name = "" },
		"a word as a name":              func(p *api.Prog) { p.Locks[0] = "while" },
		"a name twice":                  func(p *api.Prog) { p.Mems[0].Name = "l" },
		"a Mem of no cells":             func(p *api.Prog) { p.Mems[1].Size = 0 },
		"a Mem of too many cells":       func(p *api.Prog) { p.Mems[1].Size = api.MaxSize + 1 },
		"what one does not come to":     func(p *api.Prog) { p.Funs[1].Code = []api.Ins{back(0), show(1), back(0)} },
		"a goal where one doesn't come": func(p *api.Prog) { p.Funs[1].Code = []api.Ins{back(0), jump(2)} },
	} {
		p := whole()
		spoil(&p)
		expect(t, what+", code.May", code.May(p), false)
		f, err := flow.Of(p)
		expect(t, what, err, api.ErrForm)
		expect(t, what, written(f), written(api.Form{}))
	}
}

// row are instructions, so many: each goes on to the next one, or to an instruction that goto tells; the last one is an OReturn.
func row(n int, i api.Ins, goal func(at int) int) []api.Ins {
	l := append(slices.Repeat([]api.Ins{i}, n-1), back(0))
	for at := range n - 1 {
		if goal != nil {
			l[at].N = int64(goal(at))
		}
	}
	return l
}

// P11.1, P11.3, P11.4, Limits: as many instructions as there may be, and one more; so many blocks, and one ahead of them.
func TestLarge(t *testing.T) {
	const ins = api.MaxIns
	next, zero, end := func(at int) int { return at + 1 }, func(int) int { return 0 }, func(int) int { return ins - 1 }
	for _, x := range []struct {
		what                string
		l                   []api.Ins
		blocks, count, from int // how many instructions are in them, from how many blocks one comes to the last one
	}{
		{"no OJump", row(ins, constant(0, 1), nil), 1, ins, 0},
		{"OJumps to the next one", row(ins, jump(0), next), ins, ins, 1},
		{"OJumps to the next one, and to the first one", append(row(ins, jump(0), next)[:ins-1], jump(0)), ins + 1, ins, 1},
		{"OBranches to the next one", row(ins, branch(0, 0), next), ins, ins, 1},
		{"OBranches to the first one", row(ins, branch(0, 0), zero), ins + 1, ins, 1},
		{"OBranches to the last one", row(ins, branch(0, 0), end), ins, ins, ins - 1},
		{"OJumps to the last one", row(ins, jump(0), end), 2, 2, 1},
		{"OJumps to the first one", row(ins, jump(0), zero), 2, 1, 2},
		{"OReturns", row(ins, back(0), nil), 1, 1, 0},
	} {
		p := one(1, x.l...)
		f := of(t, p)
		last := f.Funs[0].Blocks[len(f.Funs[0].Blocks)-1]
		count := 0
		for _, b := range f.Funs[0].Blocks {
			count += len(b.Code)
		}
		expect(t, x.what, blocks(len(f.Funs[0].Blocks), count, len(last.From)), blocks(x.blocks, x.count, x.from))
		p.Funs[0].Code = slices.Insert(x.l, 1, back(0))
		_, err := flow.Of(p)
		expect(t, x.what+", and one more", err, api.ErrForm)
	}
	f := of(t, one(1, row(ins, branch(0, 0), zero)...))
	expect(t, "From of the one behind the first one", len(f.Funs[0].Blocks[1].From), ins)
}

// P11.1, P11.3, Limits: as many of all else as there may be, and one more.
func TestMost(t *testing.T) {
	regs := func(n int) api.Prog { return one(n, move(n-1, n-2), back(n-1)) }
	params := func(n int) api.Prog {
		p := one(n, call(0, 1, make([]int, n)...), back(0))
		p.Funs[1].Params, p.Funs[1].Regs = n, n
		return p
	}
	funs := func(thread bool) func(n int) api.Prog {
		return func(n int) api.Prog {
			var p api.Prog
			for i := range n {
				p.Funs = append(p.Funs, api.Fun{Name: "t" + strconv.Itoa(i), Thread: thread, Regs: 1, Code: []api.Ins{jump(0)}})
			}
			return p
		}
	}
	size := func(n int) api.Prog { return api.Prog{Mems: []api.Mem{{Name: "x", Size: n}}} }
	for most, program := range map[int]func(n int) api.Prog{
		api.MaxRegs: regs, api.MaxParams: params, api.MaxThreads: funs(true), api.MaxDecls: funs(false), api.MaxSize: size,
	} {
		for n := most - 1; n <= most; n++ {
			p := program(n)
			expect(t, strconv.Itoa(n)+" may be", of(t, p), formOf(p))
		}
		_, err := flow.Of(program(most + 1))
		expect(t, strconv.Itoa(most+1)+" may not be", err, api.ErrForm)
	}
}

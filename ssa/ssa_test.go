package ssa_test

import (
	"fmt"
	"testing"

	"bobbin/api"
	"bobbin/flat"
	"bobbin/flow"
	"bobbin/parse"
	"bobbin/ssa"
)

// written is all that is in something; an empty list may be nil.
func written(v any) string { return fmt.Sprintf("%+v", v) }

// expect holds two things of one type against each other, all that is in them.
func expect[T any](t *testing.T, what string, got, want T) {
	t.Helper()
	if g, w := written(got), written(want); g != w {
		t.Fatalf("%s: %s, not %s", what, g, w)
	}
}

// formOf is the program of blocks of a text.
func formOf(t *testing.T, s string) api.Form {
	t.Helper()
	l, at, err := parse.Parse(s)
	if err != api.OK {
		t.Fatalf("%.300q can't be read: %v at %d", s, err, at)
	}
	p, err := flat.Make(l)
	if err != api.OK {
		t.Fatalf("%.300q can't be made: %v", s, err)
	}
	f, err := flow.Of(p)
	if err != api.OK {
		t.Fatalf("%.300q can't be cut: %v", s, err)
	}
	return f
}

// of is what comes of a graph, that must not be refused.
func of(t *testing.T, g api.Graph) api.Graph {
	t.Helper()
	got, err := ssa.Of(g)
	if err != api.OK {
		t.Fatalf("Of: %v of %+v", err, g)
	}
	return got
}

// live is what is live in a graph, that must not be refused.
func live(t *testing.T, g api.Graph) [][]int {
	t.Helper()
	l, err := ssa.Live(g)
	if err != api.OK || len(l) != len(g.Blocks) {
		t.Fatalf("Live: %v, %v of %+v", err, l, g)
	}
	return l
}

// refused asks that Of refuses a graph, and answers nothing beside.
func refused(t *testing.T, g api.Graph, want api.Errno) {
	t.Helper()
	if got, err := ssa.Of(g); err != want || written(got) != written(api.Graph{}) {
		t.Fatalf("Of: %v, not %v, and %+v, of %+v", err, want, got, g)
	}
}

// P14.2: the chapter's examples.
func TestExamples(t *testing.T) {
	f := formOf(t, "global x = 0; thread t { var v = 0; if x < 1 { v = 1; } else { v = 2; } print v; }")
	all, err := ssa.All(f)
	if err != api.OK {
		t.Fatal(err)
	}
	g := all.Funs[0]
	expect(t, "Regs", g.Regs, 11)
	expect(t, "blocks", len(g.Blocks), 4)
	expect(t, "v in block 0", g.Blocks[0].Code[1], move(1, 0))
	expect(t, "v in block 1", g.Blocks[1].Code[1], move(6, 5))
	expect(t, "v in block 2", g.Blocks[2].Code[1], move(8, 7))
	expect(t, "the Phis of block 3", g.Blocks[3].Phis, []api.Phi{phi(9, 6, 8)})
	expect(t, "what is printed", g.Blocks[3].Code[0], show(9))
	refused(t, graph(0, 1, block(nil, show(0), back(0))), api.ErrState)
}

// reading is an instruction, the registers that it reads, and whether it sets R, 7.
type reading struct {
	ins  api.Ins
	want []int
	sets bool
}

// P14.1: what each operation reads and sets; R is 7, A 3, B 4, N 9 in all, and Args are 5, 6.
func TestReads(t *testing.T) {
	for _, x := range []reading{
		{api.Ins{Op: api.OConst}, nil, true},
		{api.Ins{Op: api.OMove}, list(3), true},
		{api.Ins{Op: api.OUnary}, list(3), true},
		{api.Ins{Op: api.OBinary}, list(3, 4), true},
		{api.Ins{Op: api.OLoad}, list(3), true},
		{api.Ins{Op: api.OStore}, list(3, 4), false},
		{api.Ins{Op: api.OAcquire}, nil, false},
		{api.Ins{Op: api.ORelease}, nil, false},
		{api.Ins{Op: api.OPrint}, list(3), false},
		{api.Ins{Op: api.OCall}, list(5, 6), true},
		{api.Ins{Op: api.OJump}, nil, false},
		{api.Ins{Op: api.OBranch}, list(3), false},
		{api.Ins{Op: api.OReturn}, list(3), false},
		{api.Ins{Op: 0}, nil, false},
		{api.Ins{Op: api.OReturn + 1}, nil, false},
		{api.Ins{Op: 255}, nil, false},
	} {
		x.ins.R, x.ins.A, x.ins.B, x.ins.N, x.ins.Args = 7, 3, 4, 9, list(5, 6)
		reads(t, x)
	}
}

// P14.1: A of -1, equal registers, no Args, any numbers.
func TestReadsEdges(t *testing.T) {
	for _, x := range []reading{
		{load(7, -1), nil, true}, {load(7, 0), list(0), true}, {load(7, -2), list(-2), true}, {load(7, 7), list(7), true},
		{store(-1, 4), list(4), false}, {store(0, 4), list(0, 4), false}, {store(-1, -1), list(-1), false}, {store(4, 4), list(4, 4), false},
		{store(3, -1), list(3, -1), false}, {move(7, -1), list(-1), true}, {binary(7, -1, -1), list(-1, -1), true}, {binary(7, 7, 2), list(7, 2), true},
		{call(7), nil, true}, {call(7, 2, 2), list(2, 2), true}, {call(7, 9, 1, 7, -1), list(9, 1, 7, -1), true}, {back(-1), list(-1), false},
	} {
		reads(t, x)
	}
	if r, sets := ssa.Sets(constant(-5)); r != -5 || !sets {
		t.Error("an R below 0:", r, sets)
	}
}

// reads asks what an instruction reads and sets.
func reads(t *testing.T, x reading) {
	t.Helper()
	expect(t, written(x.ins), ssa.Reads(x.ins), x.want)
	r, sets := ssa.Sets(x.ins)
	want := 0
	if x.sets {
		want = 7
	}
	if r != want || sets != x.sets {
		t.Errorf("%+v sets %d, %v", x.ins, r, sets)
	}
}

// shape is a graph, what is live in it, and what comes of it.
type shape struct {
	what string
	g    api.Graph
	live [][]int
	want api.Graph
}

// shapes are the edges that the chapter names, in graphs of one register, or of some; behind a parameter, often.
func shapes() []shape {
	return []shape{
		{"one block", graph(0, 1, block(nil, constant(0), back(0))), [][]int{{}}, graph(0, 1, block(nil, constant(0), back(0)))},
		{"a register set twice in one block", graph(0, 1, block(nil, constant(0), show(0), constant(0), back(0))), [][]int{{}},
			graph(0, 2, block(nil, constant(0), show(0), constant(1), back(1)))},
		{"instructions that read what they set", graph(1, 1, block(nil, unary(0, 0), binary(0, 0, 0), call(0, 0, 0), load(0, 0), move(0, 0), back(0))), [][]int{{0}},
			graph(1, 6, block(nil, unary(1, 0), binary(2, 1, 1), call(3, 2, 2), load(4, 3), move(5, 4), back(5)))},
		{"a register that is set and never read", graph(1, 2, block(list(1, 2), constant(1), branch(0)), block(list(2), constant(1)), block(nil, constant(1), back(0))),
			[][]int{{0}, {0}, {0}}, graph(1, 4, block(list(1, 2), constant(1), branch(0)), block(list(2), constant(2)), block(nil, constant(3), back(0)))},
		{"a register that nobody knows", graph(1, 9, block(nil, back(0))), [][]int{{0}}, graph(1, 1, block(nil, back(0)))},
		{"parameters alone, not read", graph(3, 4, block(nil, constant(3), back(3))), [][]int{{}}, graph(3, 4, block(nil, constant(3), back(3)))},
		{"two ways that set it, and one that doesn't",
			graph(1, 2, block(list(1, 2), constant(1), branch(0)), block(list(3, 4), constant(1), branch(0)), block(list(4), constant(1)), block(list(4), show(0)), block(nil, back(1))),
			[][]int{{0}, {0}, {}, {0, 1}, {1}},
			graph(1, 5, block(list(1, 2), constant(1), branch(0)), block(list(3, 4), constant(2), branch(0)), block(list(4), constant(3)), block(list(4), show(0)),
				choice(block(nil, back(4)), phi(4, 2, 3, 2)))},
		{"set in one way of two", graph(1, 2, block(list(1, 2), constant(1), branch(0)), block(list(2), constant(1)), block(nil, back(1))), [][]int{{0}, {}, {1}},
			graph(1, 4, block(list(1, 2), constant(1), branch(0)), block(list(2), constant(2)), choice(block(nil, back(3)), phi(3, 1, 2)))},
		{"placed, but not live there", graph(1, 2, block(list(1, 2), constant(1), branch(0)), block(list(2), constant(1), show(1)), block(nil, constant(1), back(1))),
			[][]int{{0}, {}, {}}, graph(1, 4, block(list(1, 2), constant(1), branch(0)), block(list(2), constant(2), show(2)), block(nil, constant(3), back(3)))},
		{"placed, not live there, but behind it",
			graph(1, 2, block(list(1, 2), constant(1), branch(0)), block(list(3), constant(1)), block(list(3, 4), branch(0)), block(list(4), constant(1)), block(nil, back(1))),
			[][]int{{0}, {}, {0, 1}, {}, {1}},
			graph(1, 5, block(list(1, 2), constant(1), branch(0)), block(list(3), constant(2)), block(list(3, 4), branch(0)), block(list(4), constant(3)),
				choice(block(nil, back(4)), phi(4, 1, 3)))},
		{"a parameter set anew in a way", graph(1, 1, block(list(1, 2), branch(0)), block(list(2), constant(0)), block(nil, back(0))), [][]int{{0}, {}, {0}},
			graph(1, 3, block(list(1, 2), branch(0)), block(list(2), constant(1)), choice(block(nil, back(2)), phi(2, 0, 1)))},
		{"a parameter set anew ahead of all", graph(2, 2, block(list(1), constant(1)), block(nil, store(0, 1), back(1))), [][]int{{0}, {0, 1}},
			graph(2, 3, block(list(1), constant(2)), block(nil, store(0, 2), back(2)))},
		{"both ways lead to one block", graph(1, 2, block(list(1, 1), constant(1), branch(0)), block(nil, back(1))), [][]int{{0}, {1}},
			graph(1, 2, block(list(1, 1), constant(1), branch(0)), block(nil, back(1)))},
		{"both ways lead to one block, where ways come together",
			graph(1, 2, block(list(1, 2), constant(1), branch(0)), block(list(2, 2), constant(1), branch(1)), block(nil, back(1))), [][]int{{0}, {}, {1}},
			graph(1, 4, block(list(1, 2), constant(1), branch(0)), block(list(2, 2), constant(2), branch(2)), choice(block(nil, back(3)), phi(3, 1, 2)))},
		{"no register at all", graph(0, 0, block(list(1), acquire()), block(list(1), release(), acquire(), jump())), [][]int{{}, {}},
			graph(0, 0, block(list(1), acquire()), block(list(1), release(), acquire(), jump()))},
		{"blocks without instructions", graph(1, 1, block(list(1)), block(list(2)), block(nil, back(0))), [][]int{{0}, {0}, {0}}, graph(1, 1, block(list(1)), block(list(2)), block(nil, back(0)))},
	}
}

// loops are graphs with ways back.
func loops() []shape {
	return []shape{
		{"a block that goes to itself", graph(1, 2, block(list(1), constant(1)), block(list(2, 1), unary(1, 1), branch(0)), block(nil, back(1))), [][]int{{0}, {0, 1}, {1}},
			graph(1, 4, block(list(1), constant(1)), choice(block(list(2, 1), unary(3, 2), branch(0)), phi(2, 1, 3)), block(nil, back(3)))},
		{"a block that goes to itself alone", graph(1, 1, block(list(1)), block(list(1), unary(0, 0), jump())), [][]int{{0}, {0}},
			graph(1, 3, block(list(1)), choice(block(list(1), unary(2, 1), jump()), phi(1, 0, 2)))},
		{"set in a loop, and set ahead of all reads in it", graph(1, 2, block(list(1)), block(list(2, 1), constant(1), branch(1)), block(nil, back(1))), [][]int{{}, {}, {1}},
			graph(1, 2, block(list(1)), block(list(2, 1), constant(1), branch(1)), block(nil, back(1)))},
		{"set in a loop, and read behind it", graph(1, 2, block(list(1), constant(1)), block(list(2, 3), branch(0)), block(list(1), constant(1), jump()), block(nil, back(1))),
			[][]int{{0}, {0, 1}, {0}, {1}},
			graph(1, 4, block(list(1), constant(1)), choice(block(list(2, 3), branch(0)), phi(2, 1, 3)), block(list(1), constant(3), jump()), block(nil, back(2)))},
		{"not set in a loop", graph(1, 2, block(list(1), constant(1)), block(list(2, 3), branch(0)), block(list(1), show(1), jump()), block(nil, back(1))),
			[][]int{{0}, {0, 1}, {0, 1}, {1}},
			graph(1, 2, block(list(1), constant(1)), block(list(2, 3), branch(0)), block(list(1), show(1), jump()), block(nil, back(1)))},
		{"a loop in a loop", graph(1, 2, block(list(1), constant(1)), block(list(2, 5), branch(0)), block(list(3, 4), branch(0)), block(list(2), unary(1, 1), jump()), block(list(1), jump()), block(nil, back(1))),
			[][]int{{0}, {0, 1}, {0, 1}, {0, 1}, {0, 1}, {1}},
			graph(1, 5, block(list(1), constant(1)), choice(block(list(2, 5), branch(0)), phi(2, 1, 3)), choice(block(list(3, 4), branch(0)), phi(3, 2, 4)),
				block(list(2), unary(4, 3), jump()), block(list(1), jump()), block(nil, back(2)))},
		{"two that change places", graph(2, 3, block(list(1)), block(list(2, 3), branch(0)), block(list(1), move(2, 1), move(1, 0), move(0, 2), jump()), block(nil, store(0, 1), back(0))),
			[][]int{{0, 1}, {0, 1}, {0, 1}, {0, 1}},
			graph(2, 7, block(list(1)), choice(block(list(2, 3), branch(2)), phi(2, 0, 6), phi(3, 1, 5)), block(list(1), move(4, 3), move(5, 2), move(6, 4), jump()), block(nil, store(2, 3), back(2)))},
	}
}

// rows are graphs in which numbers go by another row than blocks do, or Phis by another one than what is set.
func rows() []shape {
	return []shape{
		{"blocks as dom.Order has them", graph(1, 2, block(list(2, 4), constant(1), branch(0)), block(nil, constant(1), back(1)), block(list(3, 1), constant(1), branch(0)),
			block(nil, constant(1), back(1)), block(nil, constant(1), back(1))), [][]int{{0}, {}, {0}, {}, {}},
			graph(1, 6, block(list(2, 4), constant(1), branch(0)), block(nil, constant(3), back(3)), block(list(3, 1), constant(2), branch(0)),
				block(nil, constant(4), back(4)), block(nil, constant(5), back(5)))},
		{"Phis by rising registers", graph(1, 4, block(list(1, 2), constant(3), constant(2), constant(1), branch(0)), block(list(2), constant(2), constant(3), constant(1)),
			block(nil, binary(0, 3, 1), binary(0, 0, 2), back(0))), [][]int{{0}, {}, {1, 2, 3}},
			graph(1, 12, block(list(1, 2), constant(1), constant(2), constant(3), branch(0)), block(list(2), constant(4), constant(5), constant(6)),
				choice(block(nil, binary(10, 9, 7), binary(11, 10, 8), back(11)), phi(7, 3, 6), phi(8, 2, 4), phi(9, 1, 5)))},
		{"a Phi of Phis", graph(1, 2, block(list(1, 2), constant(1), branch(0)), block(list(2), constant(1)), block(list(3, 4), branch(0)), block(list(4), constant(1)), block(nil, back(1))),
			[][]int{{0}, {0}, {0, 1}, {}, {1}},
			graph(1, 6, block(list(1, 2), constant(1), branch(0)), block(list(2), constant(2)), choice(block(list(3, 4), branch(0)), phi(3, 1, 2)), block(list(4), constant(4)),
				choice(block(nil, back(5)), phi(5, 3, 4)))},
		{"a last block ahead of those that lead to it", graph(1, 2, block(list(3, 2), constant(1), branch(0)), block(nil, back(1)), block(list(1), constant(1)), block(list(1), constant(1))),
			[][]int{{0}, {1}, {}, {}},
			graph(1, 5, block(list(3, 2), constant(1), branch(0)), choice(block(nil, back(2)), phi(2, 3, 4)), block(list(1), constant(3)), block(list(1), constant(4)))},
	}
}

// P14.1, P14.2: the edges that the chapter names, loops, and rows of numbers.
func TestShapes(t *testing.T) {
	for _, l := range [][]shape{shapes(), loops(), rows()} {
		for _, x := range l {
			if !flow.May(x.g) || !flow.May(x.want) {
				t.Fatalf("%s: it may not be: %+v", x.what, x)
			}
			expect(t, x.what+": live", live(t, x.g), x.live)
			expect(t, x.what+": live, by all ways", liveOf(x.g), x.live)
			expect(t, x.what, of(t, x.g), x.want)
			expect(t, x.what+", in other words", once(t, x.g), x.want)
			x.g.Name, x.want.Name = "other", "other"
			expect(t, x.what+", by another name", of(t, x.g), x.want)
			if x.g.Params == 0 {
				x.g.Thread, x.want.Thread = true, true
				expect(t, x.what+", of a thread", of(t, x.g), x.want)
			}
		}
	}
}

// P14.1: what is live in graphs with Phis, and with blocks that are not reached.
func TestLive(t *testing.T) {
	two := func(last api.Block) api.Graph {
		return graph(1, 4, block(list(1, 2), branch(0)), block(list(3), show(0)), block(list(3)), last)
	}
	for _, x := range []shape{
		{what: "a Phi's R, and its Args", g: two(choice(block(nil, back(1)), phi(1, 2, 3))), live: [][]int{{0, 2, 3}, {0, 2}, {3}, {}}},
		{what: "a Phi whose R nobody reads", g: two(choice(block(nil, back(0)), phi(1, 2, 3))), live: [][]int{{0, 2, 3}, {0, 2}, {0, 3}, {0}}},
		{what: "a Phi of its own R", g: two(choice(block(nil, back(1)), phi(1, 1, 2))), live: [][]int{{0, 1, 2}, {0, 1}, {2}, {}}},
		{what: "two Phis, one of the other one's R", g: two(choice(block(nil, binary(1, 1, 2), back(1)), phi(1, 2, 3), phi(2, 1, 3))), live: [][]int{{0, 1, 2, 3}, {0, 1, 2}, {3}, {}}},
		{what: "two Phis of one R", g: two(choice(block(nil, back(1)), phi(1, 2, 2), phi(1, 3, 3))), live: [][]int{{0, 2, 3}, {0, 2, 3}, {2, 3}, {}}},
		{what: "an Arg that is set ahead of it", g: graph(1, 4, block(list(1, 2), branch(0)), block(list(3), constant(2)), block(list(3), show(3), constant(3)), choice(block(nil, back(1)), phi(1, 2, 3))),
			live: [][]int{{0, 3}, {}, {3}, {}}},
		{what: "a Phi of a block that goes to itself", g: graph(1, 3, block(list(1)), choice(block(list(2, 1), unary(2, 1), branch(2)), phi(1, 0, 2)), block(nil, back(1))), live: [][]int{{0}, {}, {1}}},
		{what: "a Phi's R that is an Arg of its own loop", g: graph(1, 2, block(list(1)), choice(block(list(2, 1), branch(1)), phi(1, 0, 1)), block(nil, back(1))), live: [][]int{{0}, {}, {1}}},
		{what: "a block that is not reached", g: graph(0, 2, block(nil, constant(0), back(0)), block(nil, back(1))), live: [][]int{{}, {1}}},
		{what: "blocks that are not reached go to one that is", g: graph(1, 3, block(list(2)), block(list(2), show(1)), block(list(3), show(2)), block(nil, back(0))), live: [][]int{{0, 2}, {0, 1, 2}, {0, 2}, {0}}},
		{what: "blocks that are not reached go round", g: graph(1, 2, block(nil, back(0)), block(list(2), jump()), block(list(1, 1), branch(1))), live: [][]int{{0}, {1}, {1}}},
		{what: "a Phi's Arg of a block that is not reached", g: graph(1, 4, block(list(2)), block(list(2), show(0)), choice(block(nil, back(1)), phi(1, 2, 3))), live: [][]int{{2}, {0, 3}, {}}},
		{what: "registers from Params on at the begin of block 0", g: graph(1, 3, block(nil, binary(2, 1, 2), back(2))), live: [][]int{{1, 2}}},
		{what: "a call's Args", g: graph(0, 9, block(nil, call(0, 8, 2, 2), back(0))), live: [][]int{{2, 8}}},
	} {
		expect(t, x.what, live(t, x.g), x.live)
		expect(t, x.what+", by all ways", liveOf(x.g), x.live)
	}
}

// bad are graphs that may not be, made of one that may.
func bad() []api.Graph {
	good := func() api.Graph { return graph(0, 1, block(list(1), constant(0)), block(nil, back(0))) }
	to0 := graph(0, 1, block(list(1), constant(0)), block(list(0), show(0)))
	less, wide, high, from, op := good(), good(), good(), good(), good()
	less.Blocks = nil
	wide.Regs = 4*api.MaxIns + 1
	high.Blocks[1].Code[0].A = 1
	from.Blocks[1].From = nil
	op.Blocks[0].Code[0].Op = 77
	return []api.Graph{{}, to0, less, wide, high, from, op, graph(1, 0, block(nil, back(0))), graph(0, 1, choice(block(nil, constant(0), back(0)), phi(0)))}
}

// P14.1, P14.2: graphs that may not be; one to whose block 0 one goes is among them.
func TestBad(t *testing.T) {
	for _, g := range bad() {
		if flow.May(g) {
			t.Fatalf("it may be: %+v", g)
		}
		refused(t, g, api.ErrForm)
		if l, err := ssa.Live(g); err != api.ErrForm || len(l) > 0 {
			t.Errorf("Live: %v, %v of %+v", l, err, g)
		}
	}
}

// P14.2: each of the errors of Of, in their order.
func TestErrors(t *testing.T) {
	withPhi := graph(1, 2, block(list(1, 1), branch(0)), choice(block(nil, back(1)), phi(1, 0)))
	unreached := graph(1, 2, block(nil, back(0)), block(nil, back(0)))
	state := graph(1, 2, block(nil, back(1)))
	stateBehind := graph(1, 2, block(list(1, 2), branch(0)), block(list(2), constant(1)), block(nil, back(1)))
	refused(t, withPhi, api.ErrForm)
	refused(t, unreached, api.ErrForm)
	refused(t, state, api.ErrState)
	refused(t, stateBehind, api.ErrState)
	of(t, graph(2, 2, stateBehind.Blocks...))

	// A register that is live at the begin of block 0, beside what is told ahead of it.
	refused(t, graph(1, 2, block(list(1, 1), branch(1)), choice(block(nil, back(1)), phi(1, 0))), api.ErrForm)
	refused(t, graph(1, 2, block(nil, back(1)), block(nil, back(0))), api.ErrForm)
	refused(t, graph(1, 2, block(nil, back(0)), block(nil, back(1))), api.ErrForm)
	refused(t, graph(1, 2, block(nil, show(1), back(2))), api.ErrForm)
	refused(t, graph(0, 1, block(list(1), show(0)), block(list(1), jump()), choice(block(nil, back(0)))), api.ErrForm)
	// Lists of no Phis are none.
	expect(t, "an empty list of Phis", of(t, graph(1, 1, choice(block(nil, back(0)), []api.Phi{}...))), graph(1, 1, block(nil, back(0))))
}

// program is a program of blocks of some graphs, that have names by their numbers, a global and a lock.
func program(l ...api.Graph) api.Form {
	f := api.Form{Mems: []api.Mem{{Name: "x", Size: 1, First: 7}}, Locks: []string{"k"}}
	for n, g := range l {
		g.Name = "f" + string(rune('a'+n))
		f.Funs = append(f.Funs, g)
	}
	return f
}

// P14.2: All of programs of several Funs, one, and none.
func TestAll(t *testing.T) {
	var graphs, want []api.Graph
	for _, x := range append(shapes(), loops()...) {
		graphs, want = append(graphs, x.g), append(want, x.want)
	}
	// Each call is of a Fun with as many Params as Args.
	none, two := graph(0, 1, block(nil, constant(0), back(0))), graph(2, 2, block(nil, back(1)))
	graphs, want = append([]api.Graph{two}, graphs...), append([]api.Graph{two}, want...)
	graphs, want = append(graphs, none), append(want, none)
	got, err := ssa.All(program(graphs...))
	if err != api.OK {
		t.Fatal(err)
	}
	expect(t, "all shapes", got, program(want...))
	for _, f := range []api.Form{program(), {}, program(none), {Locks: []string{"k"}}} {
		got, err := ssa.All(f)
		if err != api.OK {
			t.Fatal(err)
		}
		expect(t, "few Funs", got, f)
	}
}

// P14.2: each of the errors of All, in their order.
func TestAllErrors(t *testing.T) {
	good := graph(1, 2, block(nil, constant(1), back(1)))
	state := graph(1, 2, block(nil, back(1)))
	unreached := graph(1, 1, block(nil, back(0)), block(nil, back(0)))
	withPhi := graph(1, 2, block(list(1, 1), branch(0)), choice(block(nil, back(1)), phi(1, 0)))
	lost := graph(1, 2, block(nil, load(1, -1), back(1)))
	lost.Blocks[0].Code[0].N = 1 // of two graphs each may be, but there is one global alone
	for _, x := range []struct {
		what string
		f    api.Form
		want api.Errno
	}{
		{"the second one has a register", program(good, state), api.ErrState},
		{"the second one has a block that is not reached", program(good, unreached), api.ErrForm},
		{"the second one has a Phi", program(good, withPhi, good), api.ErrForm},
		{"the first one has a register, the second one a Phi", program(state, withPhi), api.ErrState},
		{"the first one has a Phi, the second one a register", program(withPhi, state), api.ErrForm},
		{"a register, in a program that may not be", program(state, lost), api.ErrForm},
		{"a program that may not be", program(good, lost), api.ErrForm},
		{"a program of a graph that may not be", program(state, graph(0, 0, block(nil, back(0)))), api.ErrForm},
		{"two of one name", api.Form{Funs: []api.Graph{good, good}}, api.ErrForm},
	} {
		if got, err := ssa.All(x.f); err != x.want || written(got) != written(api.Form{}) {
			t.Errorf("%s: %v, not %v, and %+v", x.what, err, x.want, got)
		}
	}
	f := program(lost)
	f.Mems = append(f.Mems, api.Mem{Name: "y", Size: 1})
	if _, err := ssa.All(f); err != api.OK {
		t.Error("with a global more:", err)
	}
}

package sound_test

import (
	"fmt"
	"slices"
	"testing"

	"bobbin/api"
	"bobbin/flow"
	"bobbin/sound"
)

// written is all that is in something; an empty list may be nil.
func written(v any) string { return fmt.Sprintf("%+v", v) }

// expect holds two things of one type against each other, all that is in them.
func expect[T any](t *testing.T, what string, got, want T) {
	t.Helper()
	if g, w := written(got), written(want); g != w {
		t.Fatalf("%s: %s, not %s", what, g, w)
	}
}

// spots are spots, told by a block and an At each.
func spots(l ...int) []sound.Spot {
	var out []sound.Spot
	for at := 0; at+1 < len(l); at += 2 {
		out = append(out, sound.Spot{Block: l[at], At: l[at+1]})
	}
	return out
}

// answer holds all that the calls answer of a graph against what is known: what Set says, and Check.
func answer(t *testing.T, what string, g api.Graph, set []sound.Spot, err, check api.Errno) {
	t.Helper()
	got, refusal := sound.Set(g)
	expect(t, what+": Set's error", refusal, err)
	expect(t, what+": Set", got, set)
	expect(t, what+": Check", sound.Check(g), check)
	expect(t, what+": May", sound.May(g), check == api.OK)
	expect(t, what+": MayForm", sound.MayForm(program(callee(g), g)), check == api.OK)
}

// callee is a graph that another one, whose calls have as many Args each, may call; in it each register is set once.
func callee(g api.Graph) api.Graph {
	params := 0
	for _, x := range g.Blocks {
		for _, i := range x.Code {
			if i.Op == api.OCall {
				params = len(i.Args)
			}
		}
	}
	return graph(params, params+1, block(nil, constant(params), back(params)))
}

// isOnce asks of a graph that each register is set once in it, where it is known to be.
func isOnce(t *testing.T, what string, g api.Graph, set ...int) {
	t.Helper()
	answer(t, what, g, spots(set...), api.OK, api.OK)
}

// lacks asks of a graph that something is read in it that is not there; each register is set where it is known to be.
func lacks(t *testing.T, what string, g api.Graph, set ...int) {
	t.Helper()
	answer(t, what, g, spots(set...), api.OK, api.ErrNone)
}

// isTwice asks of a graph that some register is set at two spots.
func isTwice(t *testing.T, what string, g api.Graph) {
	t.Helper()
	answer(t, what, g, nil, api.ErrTwice, api.ErrTwice)
}

// mayNot asks of a graph that it is refused.
func mayNot(t *testing.T, what string, g api.Graph) {
	t.Helper()
	answer(t, what, g, nil, api.ErrForm, api.ErrForm)
}

// P15.1: the chapter's examples.
func TestExamples(t *testing.T) {
	isOnce(t, "set and read", graph(0, 1, block(nil, constant(0), back(0))), 0, 0)
	lacks(t, "read alone", graph(0, 1, block(nil, back(0))), -1, -1)
	isOnce(t, "a parameter", graph(1, 1, block(nil, back(0))), 0, -1)
	isTwice(t, "set twice", graph(0, 1, block(nil, constant(0), constant(0), back(0))))
	isTwice(t, "set on two ways", graph(1, 2, block(list(1, 2), branch(0)), block(list(3), constant(1), jump()), block(list(3), constant(1)), block(nil, back(1))))
	isOnce(t, "set on two ways, and a Phi", graph(1, 4, block(list(1, 2), branch(0)), block(list(3), constant(1), jump()), block(list(3), constant(2)),
		choice(block(nil, back(3)), phi(3, 1, 2))), 0, -1, 1, 0, 2, 0, 3, -1)
}

// P15.1: where each operation sets a register, and those that set none: register 0 is R of these, and is not set.
func TestSets(t *testing.T) {
	for _, i := range []api.Ins{constant(2), move(2, 1), unary(2, 1), binary(2, 1, 1), load(2, 1), load(2, -1), call(2, 1), call(2)} {
		isOnce(t, "sets: "+written(i), graph(2, 4, block(list(1), show(1)), block(nil, release(), show(1), i, back(2))), 0, -1, 0, -1, 1, 2, -1, -1)
	}
	for _, i := range []api.Ins{store(1, 1), store(-1, 1), acquire(), release(), show(1)} {
		isOnce(t, "sets none: "+written(i), graph(0, 2, block(nil, constant(1), i, back(1))), -1, -1, 0, 0)
		isOnce(t, "sets none, R a parameter: "+written(i), graph(1, 2, block(nil, constant(1), i, back(1))), 0, -1, 0, 0)
	}
	isOnce(t, "an OJump and an OReturn", graph(0, 2, block(list(1), constant(1), jump()), block(nil, back(1))), -1, -1, 0, 0)
	isOnce(t, "an OBranch", graph(0, 2, block(list(1, 1), constant(1), branch(1)), block(nil, back(1))), -1, -1, 0, 0)
	isOnce(t, "a block that ends by none", graph(0, 2, block(list(1), constant(1)), block(nil, back(1))), -1, -1, 0, 0)
}

// P15.1: what each operation reads is asked for: the registers 1 and 2 are set, 3 and 0 are not; what it does not name stands at 0.
func TestReads(t *testing.T) {
	ask := func(what string, want api.Errno, to []int, l ...api.Ins) {
		t.Helper()
		l = append([]api.Ins{constant(1), constant(2)}, l...)
		blocks := []api.Block{block(to, l...)}
		if to != nil {
			blocks = append(blocks, block(nil, back(1)))
		}
		g := graph(0, 9, blocks...)
		if !flow.May(g) {
			t.Fatalf("%s: it may not be: %+v", what, g)
		}
		expect(t, what, sound.Check(g), want)
		expect(t, what+", in other words", checkOf(g), want)
	}
	for _, i := range []api.Ins{constant(4), move(4, 1), unary(4, 2), binary(4, 1, 2), binary(4, 2, 2), load(4, 1), load(4, -1), store(1, 2), store(-1, 1),
		acquire(), release(), show(2), call(4), call(4, 1), call(4, 2, 1, 1)} {
		ask("there: "+written(i), api.OK, nil, i, back(2))
		ask("there, last in a block: "+written(i), api.OK, list(1), i)
	}
	for _, r := range []int{0, 3, 4} {
		for _, i := range []api.Ins{move(4, r), unary(4, r), binary(4, r, 1), binary(4, 1, r), load(4, r), store(r, 1), store(1, r), store(-1, r),
			show(r), call(4, r), call(4, r, 1, 1), call(4, 1, r, 1), call(4, 1, 1, r)} {
			ask("not there: "+written(i), api.ErrNone, nil, i, back(2))
			ask("not there, last in a block: "+written(i), api.ErrNone, list(1), i)
		}
		ask("not there: OBranch", api.ErrNone, list(1, 1), branch(r))
		ask("not there: OReturn", api.ErrNone, nil, back(r))
	}
	ask("there: OBranch", api.OK, list(1, 1), branch(2))
	ask("there: OJump", api.OK, list(1), jump())
}

// P15.1: parameters, and what is set at the begin of a block.
func TestParams(t *testing.T) {
	isOnce(t, "parameters", graph(3, 3, block(nil, store(0, 1), back(2))), 0, -1, 0, -1, 0, -1)
	isOnce(t, "parameters that nobody reads", graph(2, 4, block(nil, constant(3), back(3))), 0, -1, 0, -1, -1, -1, 0, 0)
	isOnce(t, "as many parameters as may be", graph(8, 9, block(nil, constant(8), back(7))), 0, -1, 0, -1, 0, -1, 0, -1, 0, -1, 0, -1, 0, -1, 0, -1, 0, 0)
	isOnce(t, "parameters in the first instruction of blocks", graph(1, 1, block(list(1, 2), branch(0)), block(list(2), show(0)), block(nil, back(0))), 0, -1)
	isOnce(t, "a parameter that a Phi reads", graph(2, 3, block(list(1, 2), branch(0)), block(list(2)), choice(block(nil, back(2)), phi(2, 0, 1))), 0, -1, 0, -1, 2, -1)
	isTwice(t, "a parameter that the first instruction sets", graph(1, 1, block(nil, constant(0), back(0))))
	isTwice(t, "the last parameter", graph(3, 4, block(list(1), constant(3)), block(nil, unary(2, 2), back(2))))
	isTwice(t, "a parameter that a block behind sets", graph(1, 1, block(list(1, 2), branch(0)), block(list(2), constant(0)), block(nil, back(0))))
	isTwice(t, "a parameter that a Phi sets", graph(1, 2, block(list(1, 2), constant(1), branch(1)), block(list(2)), choice(block(nil, back(0)), phi(0, 1, 1))))
	// flow.May says that block 0 may have no Phi: so such a graph, that has a register at two spots, is told to be of no form.
	mayNot(t, "a parameter and a Phi of block 0", graph(1, 1, choice(block(nil, back(0)), phi(0))))
	mayNot(t, "a Phi of block 0", graph(1, 2, choice(block(nil, back(1)), phi(1))))
}

// P15.1: what is set and read in one block.
func TestOneBlock(t *testing.T) {
	lacks(t, "an instruction that reads what it sets", graph(0, 1, block(nil, unary(0, 0), back(0))), 0, 0)
	lacks(t, "one behind others that does", graph(1, 3, block(nil, show(0), binary(1, 0, 1), back(1))), 0, -1, 0, 1, -1, -1)
	lacks(t, "a call that does", graph(0, 1, block(nil, call(0, 0), back(0))), 0, 0)
	lacks(t, "set right behind it is read", graph(0, 1, block(nil, show(0), constant(0), back(0))), 0, 1)
	lacks(t, "set far behind", graph(1, 2, block(nil, show(1), release(), acquire(), constant(1), back(1))), 0, -1, 0, 3)
	isOnce(t, "set right ahead", graph(1, 2, block(nil, show(0), constant(1), back(1))), 0, -1, 0, 1)
	isOnce(t, "set far ahead", graph(0, 1, block(nil, constant(0), release(), acquire(), show(0), back(0))), 0, 0)
	isOnce(t, "set and never read", graph(1, 2, block(nil, constant(1), back(0))), 0, -1, 0, 0)
	isOnce(t, "neither set nor read", graph(1, 3, block(nil, back(0))), 0, -1, -1, -1, -1, -1)
	isOnce(t, "no register at all", graph(0, 0, block(list(1), acquire()), block(list(1), release(), acquire(), jump())))
	isOnce(t, "not set in the row of numbers", graph(0, 3, block(nil, constant(2), move(0, 2), move(1, 0), back(1))), 0, 1, 0, 2, 0, 0)
}

// P15.1: what is set in a block that is above, and in one that is not.
func TestAbove(t *testing.T) {
	isOnce(t, "set in the block ahead", graph(0, 1, block(list(1), constant(0)), block(nil, back(0))), 0, 0)
	isOnce(t, "set last in a long block, read first in the next one", graph(1, 2, block(list(1), show(0), show(0), show(0), constant(1)), block(nil, show(1), back(0))), 0, -1, 0, 3)
	isOnce(t, "set in one far above", graph(1, 2, block(list(1, 5), branch(0)), block(list(2, 3), constant(1), branch(0)), block(list(4)), block(list(4)), block(nil, back(1)), block(nil, back(0))), 0, -1, 1, 0)
	isOnce(t, "set in one of a higher number", graph(1, 2, block(list(2)), block(nil, back(1)), block(list(1), constant(1))), 0, -1, 2, 0)
	isOnce(t, "read in both ways, behind two blocks", graph(1, 2, block(list(1)), block(list(2), constant(1)), block(list(3, 4), branch(1)), block(nil, back(1)), block(nil, back(1))), 0, -1, 1, 0)
	lacks(t, "set on one of two ways", graph(1, 2, block(list(1, 2), branch(0)), block(list(2), constant(1)), block(nil, back(1))), 0, -1, 1, 0)
	lacks(t, "set on the other one of two ways", graph(1, 2, block(list(1, 2), branch(0)), block(nil, back(1)), block(nil, constant(1), back(1))), 0, -1, 2, 0)
	lacks(t, "set on one of two ways, that has two blocks", graph(1, 2, block(list(1, 3), branch(0)), block(list(2)), block(list(3), constant(1)), block(nil, back(1))), 0, -1, 2, 0)
	lacks(t, "set in the block behind", graph(1, 2, block(list(1), show(1)), block(nil, constant(1), back(0))), 0, -1, 1, 0)
	lacks(t, "read in a block far behind those that part", graph(1, 2, block(list(1, 2), branch(0)), block(list(3), constant(1)), block(list(3)), block(list(4)), block(nil, show(1), back(0))), 0, -1, 1, 0)
	lacks(t, "read by how a block ends", graph(1, 2, block(list(1, 2), branch(1)), block(list(2), constant(1)), block(nil, back(0))), 0, -1, 1, 0)
}

// P15.1: loops, and loops in loops.
func TestLoops(t *testing.T) {
	isOnce(t, "set ahead of a loop", graph(0, 1, block(list(1), constant(0)), block(list(2, 3), branch(0)), block(list(1), show(0), jump()), block(nil, back(0))), 0, 0)
	isOnce(t, "set where a loop begins", graph(1, 2, block(list(1)), block(list(2, 3), constant(1), branch(0)), block(list(1), show(1), jump()), block(nil, back(1))), 0, -1, 1, 0)
	isOnce(t, "set and read in a loop", graph(1, 2, block(list(1)), block(list(2, 3), branch(0)), block(list(1), constant(1), show(1), jump()), block(nil, back(0))), 0, -1, 2, 0)
	lacks(t, "set in a loop, and read behind it", graph(1, 2, block(list(1)), block(list(2, 3), branch(0)), block(list(1), constant(1), jump()), block(nil, back(1))), 0, -1, 2, 0)
	lacks(t, "set at a loop's end, and read where it begins", graph(1, 2, block(list(1)), block(list(2, 3), show(1), branch(0)), block(list(1), constant(1), jump()), block(nil, back(0))), 0, -1, 2, 0)
	lacks(t, "set behind it is read, in a loop of one block", graph(1, 2, block(list(1)), block(list(1, 2), show(1), constant(1), branch(0)), block(nil, back(0))), 0, -1, 1, 1)
	lacks(t, "read by what sets it, in a loop of one block", graph(1, 2, block(list(1)), block(list(1, 2), unary(1, 1), branch(0)), block(nil, back(0))), 0, -1, 1, 0)
	isTwice(t, "set ahead of a loop and in it", graph(1, 2, block(list(1), constant(1)), block(list(1, 2), unary(1, 1), branch(0)), block(nil, back(1))))
	loopIn := func(outer, inner, behind int) api.Graph {
		return graph(1, 5, block(list(1)), choice(block(list(2, 5), branch(1)), phi(1, 0, 3)), choice(block(list(3, 4), branch(2)), phi(2, 1, 4)), block(list(2), unary(4, inner), jump()),
			block(list(1), unary(3, outer), jump()), block(nil, back(behind)))
	}
	set := list(0, -1, 1, -1, 2, -1, 4, 0, 3, 0)
	isOnce(t, "a loop in a loop", loopIn(2, 2, 1), set...)
	isOnce(t, "a loop in a loop that reads what is ahead of both", loopIn(1, 1, 0), set...)
	lacks(t, "what the inner one sets, read behind it", loopIn(4, 2, 1), set...)
	lacks(t, "what the outer one sets, read in the inner one", loopIn(2, 3, 1), set...)
	lacks(t, "what the inner one chooses, read behind both", loopIn(2, 2, 2), set...)
	lacks(t, "what the inner one sets, read by itself", loopIn(2, 4, 1), set...)
}

// P15.1: where Phis are set, and what they read: at the end of the block from which one comes.
func TestPhis(t *testing.T) {
	// The blocks 1 and 2 lead to 3; 0 sets 1, and 1 and 2 set 2 and 3.
	two := func(phis ...api.Phi) api.Graph {
		return graph(1, 7, block(list(1, 2), constant(1), branch(0)), block(list(3), show(0), constant(2)), block(list(3), constant(3)), choice(block(nil, constant(6), back(0)), phis...))
	}
	set := func(four, five int) []int { return list(0, -1, 0, 0, 1, 1, 2, 0, four, -1, five, -1, 3, 0) }
	isOnce(t, "set by the last instructions of the blocks ahead", two(phi(4, 2, 3)), set(3, -1)...)
	isOnce(t, "set above these", two(phi(4, 1, 0)), set(3, -1)...)
	isOnce(t, "two Phis", two(phi(5, 0, 3), phi(4, 2, 1)), set(3, 3)...)
	isOnce(t, "no Phi", two(), set(-1, -1)...)
	lacks(t, "set in the other one of the blocks ahead", two(phi(4, 3, 2)), set(3, -1)...)
	lacks(t, "the first Arg alone is not there", two(phi(4, 3, 3)), set(3, -1)...)
	lacks(t, "the last Arg alone is not there", two(phi(4, 2, 2)), set(3, -1)...)
	lacks(t, "the last Phi alone reads what is not there", two(phi(4, 2, 3), phi(5, 1, 2)), set(3, 3)...)
	lacks(t, "set nowhere", two(phi(4, 2, 5)), set(3, -1)...)
	lacks(t, "set in the Phi's block", two(phi(4, 2, 6)), set(3, -1)...)
	lacks(t, "a Phi of itself", two(phi(4, 4, 3)), set(3, -1)...)
	lacks(t, "a Phi that reads what a Phi ahead of it sets", two(phi(4, 2, 3), phi(5, 4, 4)), set(3, 3)...)
	lacks(t, "a Phi that reads what a Phi behind it sets", two(phi(4, 2, 5), phi(5, 2, 3)), set(3, 3)...)
	isTwice(t, "two Phis of a block that set one register", two(phi(4, 2, 3), phi(4, 2, 3)))
	isTwice(t, "a Phi and an instruction of its block", two(phi(6, 2, 3)))
	isTwice(t, "a Phi and an instruction ahead", two(phi(2, 2, 3)))
	isTwice(t, "a Phi and an instruction of block 0", two(phi(1, 2, 3)))
	isOnce(t, "a Phi's R in the first instruction", graph(1, 2, block(list(1)), choice(block(nil, show(1), back(1)), phi(1, 0))), 0, -1, 1, -1)
	isOnce(t, "a Phi's R in a block behind", graph(1, 2, block(list(1)), choice(block(list(2)), phi(1, 0)), block(nil, back(1))), 0, -1, 1, -1)
	lacks(t, "a Phi's R in a block ahead", graph(1, 2, block(list(1), show(1)), choice(block(nil, back(0)), phi(1, 0))), 0, -1, 1, -1)
	isOnce(t, "Phis in blocks one behind the other", graph(1, 3, block(list(1)), choice(block(list(2)), phi(1, 0)), choice(block(nil, back(2)), phi(2, 1))), 0, -1, 1, -1, 2, -1)
	isTwice(t, "Phis in two blocks that set one register", graph(1, 2, block(list(1)), choice(block(list(2)), phi(1, 0)), choice(block(nil, back(1)), phi(1, 0))))
	isOnce(t, "both ways of a branch lead to a Phi's block", graph(1, 2, block(list(1, 1), branch(0)), choice(block(nil, back(1)), phi(1, 0))), 0, -1, 1, -1)
	// Args stand in the row of From, whatever the row of To, and of the blocks.
	isOnce(t, "a Phi's block ahead of those from which one comes", graph(1, 4, block(list(3, 2), branch(0)), choice(block(nil, back(1)), phi(1, 2, 3)), block(list(1), constant(2)), block(list(1), constant(3))),
		0, -1, 1, -1, 2, 0, 3, 0)
	lacks(t, "the same, the other way about", graph(1, 4, block(list(3, 2), branch(0)), choice(block(nil, back(1)), phi(1, 3, 2)), block(list(1), constant(2)), block(list(1), constant(3))),
		0, -1, 1, -1, 2, 0, 3, 0)
}

// P15.1: Phis of blocks on loops.
func TestPhisOfLoops(t *testing.T) {
	// The block 1 leads to itself, and sets 2 in the midst of it; block 2, behind it, sets 3.
	self := func(phis ...api.Phi) api.Graph {
		return graph(1, 6, block(list(1)), choice(block(list(1, 2), unary(2, 0), branch(0)), phis...), block(nil, constant(3), back(2)))
	}
	set := func(four, five int) []int { return list(0, -1, -1, -1, 1, 0, 2, 0, four, -1, five, -1) }
	isOnce(t, "set in its own block", self(phi(4, 0, 2)), set(1, -1)...)
	isOnce(t, "a Phi of itself, on its loop", self(phi(4, 0, 4)), set(1, -1)...)
	isOnce(t, "a Phi that reads what a Phi of the same block sets", self(phi(4, 0, 5), phi(5, 0, 4)), set(1, 1)...)
	isOnce(t, "set above its own block, on its loop", self(phi(4, 0, 0)), set(1, -1)...)
	lacks(t, "set in its own block, and read where one comes to it first", self(phi(4, 2, 0)), set(1, -1)...)
	lacks(t, "a Phi of itself, where one comes to it first", self(phi(4, 4, 0)), set(1, -1)...)
	lacks(t, "two Phis, one of the other one, where one comes to it first", self(phi(4, 5, 0), phi(5, 0, 0)), set(1, 1)...)
	lacks(t, "set behind the loop", self(phi(4, 0, 3)), set(1, -1)...)
	lacks(t, "set nowhere, on a loop", self(phi(4, 0, 1)), set(1, -1)...)
	// The block 1 begins a loop, 2 ends it.
	loop := func(p api.Phi, read int) api.Graph {
		return graph(1, 4, block(list(1)), choice(block(list(2, 3), branch(0)), p), block(list(1), unary(2, read), jump()), block(nil, back(0)))
	}
	isOnce(t, "set where the loop ends", loop(phi(1, 0, 2), 1), 0, -1, 1, -1, 2, 0, -1, -1)
	isOnce(t, "set where the loop begins, by the Phi itself", loop(phi(1, 0, 1), 0), 0, -1, 1, -1, 2, 0, -1, -1)
	lacks(t, "set where the loop ends, and read the first time", loop(phi(1, 2, 0), 1), 0, -1, 1, -1, 2, 0, -1, -1)
	lacks(t, "set nowhere, where the loop ends", loop(phi(1, 0, 3), 1), 0, -1, 1, -1, 2, 0, -1, -1)
	lacks(t, "read by what sets it, where the loop ends", loop(phi(1, 0, 2), 2), 0, -1, 1, -1, 2, 0, -1, -1)
}

// bad are graphs that may not be, made of one that may.
func bad() []api.Graph {
	good := func() api.Graph { return graph(0, 1, block(list(1), constant(0)), block(nil, back(0))) }
	to0 := graph(0, 1, block(list(1), constant(0)), block(list(0), show(0)))
	less, wide, high, from, op, thread := good(), good(), good(), good(), good(), good()
	less.Blocks = nil
	wide.Regs = 4*api.MaxIns + 1
	high.Blocks[1].Code[0].A = 1
	from.Blocks[1].From = nil
	op.Blocks[0].Code[0].Op = 77
	thread.Thread, thread.Params = true, 1
	return []api.Graph{{}, to0, less, wide, high, from, op, thread, graph(1, 0, block(nil, back(0))), graph(9, 9, block(nil, back(0))), graph(-1, 1, block(nil, constant(0), back(0)))}
}

// P15.1: graphs that may not be, and blocks that are not reached.
func TestForm(t *testing.T) {
	for _, g := range bad() {
		if flow.May(g) {
			t.Fatalf("it may be: %+v", g)
		}
		mayNot(t, "it may not be", g)
	}
	for _, x := range []struct {
		what string
		g    api.Graph
	}{
		{"a block to which nobody goes", graph(1, 1, block(nil, back(0)), block(nil, back(0)))},
		{"one that goes to one that is reached", graph(1, 1, block(list(2)), block(list(2)), block(nil, back(0)))},
		{"one that goes to itself", graph(1, 1, block(nil, back(0)), block(list(1), show(0)))},
		{"two that go to each other", graph(1, 1, block(list(3)), block(list(2), show(0)), block(list(1), jump()), block(nil, back(0)))},
		{"one that has no instruction", graph(1, 1, block(list(1)), block(nil, back(0)), block(list(1)))},
		{"one that alone sets a register", graph(1, 2, block(list(2)), block(list(2), constant(1)), block(nil, back(0)))},
	} {
		if !flow.May(x.g) {
			t.Fatalf("%s: it may not be: %+v", x.what, x.g)
		}
		mayNot(t, x.what, x.g)
	}
}

// P15.1: the errors, in their order.
func TestErrors(t *testing.T) {
	twice, none := []api.Ins{constant(1), constant(1), back(1)}, []api.Ins{show(1), back(0)}
	isTwice(t, "twice", graph(1, 3, block(nil, twice...)))
	lacks(t, "none", graph(1, 2, block(nil, none...)), 0, -1, -1, -1)

	mayNot(t, "it may not be, and sets a register twice", graph(1, 1, block(nil, twice...)))
	mayNot(t, "it may not be, and reads what is not there", graph(1, 1, block(nil, none...)))
	mayNot(t, "one goes to block 0, and a register is set twice", graph(1, 2, block(list(0), constant(1), constant(1), branch(0))))
	mayNot(t, "a block not reached, in one that sets a register twice", graph(1, 2, block(nil, twice...), block(nil, back(0))))
	mayNot(t, "a block not reached that sets a register twice", graph(1, 2, block(nil, back(0)), block(nil, twice...)))
	mayNot(t, "a block not reached that sets a register once more", graph(1, 2, block(nil, constant(1), back(1)), block(nil, constant(1), back(1))))
	mayNot(t, "a block not reached, in one that reads what is not there", graph(1, 2, block(nil, none...), block(nil, back(0))))
	mayNot(t, "a block not reached that reads what is not there", graph(1, 2, block(nil, back(0)), block(nil, none...)))

	isTwice(t, "one twice, another one read ahead of it that is not there", graph(1, 3, block(nil, show(2), constant(1), constant(1), back(0))))
	isTwice(t, "one twice, another one read behind it that is not there", graph(1, 3, block(nil, constant(1), constant(1), back(2))))
	isTwice(t, "one twice, in the last block, another one not there in the first one", graph(1, 3, block(list(1), show(1)), block(nil, constant(2), constant(2), back(0))))
	isTwice(t, "one twice that is read ahead of both", graph(1, 2, block(nil, show(1), constant(1), constant(1), back(0))))
	isTwice(t, "one twice, and a Phi's Arg not there", graph(1, 4, block(list(1), constant(1), constant(1)), choice(block(nil, back(2)), phi(2, 3))))
	isTwice(t, "the last register twice, all others once", graph(1, 3, block(nil, constant(1), constant(2), show(1), constant(2), back(2))))
	isTwice(t, "three times", graph(0, 1, block(nil, constant(0), constant(0), constant(0), back(0))))
	isTwice(t, "twice, never read", graph(1, 2, block(nil, constant(1), constant(1), back(0))))
}

// P15.1: programs of no Fun, one and some, of which one is not as it should be; and programs that may not be.
func TestMayForm(t *testing.T) {
	good := graph(1, 2, block(nil, constant(1), back(1)))
	chosen := graph(1, 2, block(list(1, 1), branch(0)), choice(block(nil, back(1)), phi(1, 0)))
	thread := graph(0, 1, block(nil, constant(0), back(0)))
	thread.Thread = true
	for _, f := range []api.Form{{}, program(), program(good), program(thread), program(good, chosen), program(chosen, thread, good, thread, good)} {
		if !sound.MayForm(f) {
			t.Errorf("it is not so: %+v", f)
		}
	}
	for what, g := range map[string]api.Graph{
		"twice":       graph(1, 2, block(nil, constant(1), constant(1), back(1))),
		"none":        graph(1, 2, block(nil, back(1))),
		"not reached": graph(1, 1, block(nil, back(0)), block(nil, back(0))),
		"may not be":  graph(1, 1, block(nil, back(1))),
	} {
		for _, f := range []api.Form{program(g), program(g, good), program(good, g), program(good, g, thread), program(chosen, good, thread, g)} {
			if sound.MayForm(f) {
				t.Errorf("%s: it is so: %+v", what, f)
			}
		}
	}
}

// P15.1: programs that may not be, in all graphs of which each register is set once.
func TestMayFormNot(t *testing.T) {
	good := graph(1, 2, block(nil, constant(1), back(1)))
	lost := graph(1, 2, block(nil, load(1, -1), back(1)))
	calls, thread := graph(1, 2, block(nil, call(1, 0, 0), back(1))), graph(0, 1, block(nil, constant(0), back(0)))
	lost.Blocks[0].Code[0].N = 1
	thread.Thread = true
	named, twin, sized, locked := program(good), program(good, good), program(good), program(good)
	named.Funs[0].Name = "1"
	twin.Funs[1].Name = "f0"
	sized.Mems[0].Size = 0
	locked.Locks[0] = "x"
	for what, f := range map[string]api.Form{
		"a name that is none": named, "two of one name": twin, "a Mem of no cell": sized, "a lock by a Mem's name": locked,
		"a Mem that is none": program(good, lost), "more Args than Params": program(good, calls),
		"more Threads than may be": program(slices.Repeat([]api.Graph{thread}, api.MaxThreads+1)...),
	} {
		for _, g := range f.Funs {
			if !sound.May(g) {
				t.Fatalf("%s: not so: %+v", what, g)
			}
		}
		if sound.MayForm(f) {
			t.Errorf("%s: it is so", what)
		}
	}
	if f := program(slices.Repeat([]api.Graph{thread}, api.MaxThreads)...); !sound.MayForm(f) {
		t.Error("as many Threads as may be: it is not so")
	}
	f := program(good, lost)
	f.Mems = append(f.Mems, api.Mem{Name: "y", Size: 1})
	if !sound.MayForm(f) {
		t.Error("with a Mem more: it is not so")
	}
}

package code_test

import (
	"math"
	"slices"
	"strconv"
	"strings"
	"testing"

	"bobbin/api"
	"bobbin/code"
	"bobbin/flat"
	"bobbin/parse"
)

// made is what flat.Make makes of a text.
func made(t *testing.T, s string) api.Prog {
	t.Helper()
	l, _, err := parse.Parse(s)
	if err != api.OK {
		t.Fatalf("%q can't be read: %v", s, err)
	}
	p, err := flat.Make(l)
	if err != api.OK {
		t.Fatalf("%q can't be made: %v", s, err)
	}
	return p
}

// expect holds two things against each other, all that is in them.
func expect(t *testing.T, what string, got, want any) {
	t.Helper()
	if g, w := written(got), written(want); g != w {
		t.Errorf("%s: %s, not %s", what, g, w)
	}
}

// thread is a program of one thread.
func thread(regs int, l ...api.Ins) api.Prog {
	return api.Prog{Funs: []api.Fun{{Name: "t", Thread: true, Regs: regs, Code: l}}}
}

// clone is a program that shares nothing with the one that it is made of.
func clone(p api.Prog) api.Prog {
	p.Mems, p.Locks, p.Funs = slices.Clone(p.Mems), slices.Clone(p.Locks), slices.Clone(p.Funs)
	for fun := range p.Funs {
		f := &p.Funs[fun]
		f.Code = slices.Clone(f.Code)
		for at := range f.Code {
			f.Code[at].Args = slices.Clone(f.Code[at].Args)
		}
	}
	return p
}

// P7.1, P7.2: the chapter's examples.
func TestExamples(t *testing.T) {
	zero, back := api.Ins{Op: api.OConst}, api.Ins{Op: api.OReturn}
	expect(t, "a thread of OConst 0, OReturn 0", code.May(thread(1, zero, back)), true)
	expect(t, "with Regs 0", code.May(thread(0, zero, back)), false)
	expect(t, "OBranch as the last one", code.May(thread(1, zero, api.Ins{Op: api.OBranch, N: 1})), false)
	p := thread(2, zero, back)
	p.Mems = []api.Mem{{Name: "x", Size: 1}}
	expect(t, "OLoad with A 0", code.MayIns(p, 0, api.Ins{Op: api.OLoad}), true)
	expect(t, "OLoad with A 0 where B is 1", code.MayIns(p, 0, api.Ins{Op: api.OLoad, B: 1}), false)
	expect(t, "Reads of OStore A -1, B 3", code.Reads(api.Ins{Op: api.OStore, A: -1, B: 3}), []int{3})
	goal, jumps := code.Goal(api.Ins{Op: api.OBranch, N: 5})
	expect(t, "Goal of OBranch N 5", []any{goal, jumps}, []any{5, true})
}

// rows is a program in which the edges of all rows are apart: 2 Mems, 3 locks, 5 Funs, of which 1 and 3 are Threads;
// the Funs have 3, 7, 11 and 0 registers, 1, 4, 13 and 2 instructions.
func rows() api.Prog {
	jumps := func(n int) []api.Ins { return slices.Repeat([]api.Ins{{Op: api.OJump}}, n) }
	return api.Prog{
		Mems:  []api.Mem{{Name: "x", Size: 1}, {Name: "a", Size: 9, First: 5}},
		Locks: []string{"k", "l", "m"},
		Funs: []api.Fun{
			{Name: "f", Params: 2, Regs: 3, Code: jumps(1)},
			{Name: "t", Thread: true, Regs: 7, Code: jumps(4)},
			{Name: "g", Params: 1, Regs: 11, Code: jumps(13)},
			{Name: "u", Thread: true, Regs: 3, Code: jumps(2)},
			{Name: "h", Code: jumps(2)},
		},
	}
}

// span is from where to where a field may be.
type span struct{ least, most int64 }

// row is a row of the chapter's table, in a Fun: from where to where each field may be, how many Args there are, from where to where each.
type row struct {
	op         uint8
	r, a, b, n span
	args       int
	arg        span
}

func tableOf(p api.Prog, fun int) []row {
	f := p.Funs[fun]
	reg, place := span{0, int64(f.Regs) - 1}, span{-1, int64(f.Regs) - 1}
	mem, lock, goal := span{0, int64(len(p.Mems)) - 1}, span{0, int64(len(p.Locks)) - 1}, span{0, int64(len(f.Code)) - 1}
	l := []row{
		{op: api.OConst, r: reg, n: span{math.MinInt64, math.MaxInt64}},
		{op: api.OMove, r: reg, a: reg},
		{op: api.OUnary, r: reg, a: reg, n: span{int64(api.Neg), int64(api.Not)}},
		{op: api.OBinary, r: reg, a: reg, b: reg, n: span{int64(api.Add), int64(api.Or)}},
		{op: api.OLoad, r: reg, a: place, n: mem},
		{op: api.OStore, a: place, b: reg, n: mem},
		{op: api.OAcquire, n: lock},
		{op: api.ORelease, n: lock},
		{op: api.OPrint, a: reg},
		{op: api.OReturn, a: reg},
		{op: api.OJump, n: goal},
		{op: api.OBranch, a: reg, n: goal},
	}
	for callee, c := range p.Funs {
		if !c.Thread {
			n := int64(callee)
			l = append(l, row{op: api.OCall, r: reg, n: span{n, n}, args: c.Params, arg: reg})
		}
	}
	return l
}

// P7.1: each row of the table, in each Fun of a program: each field at each edge, and one below and one above it.
func TestRows(t *testing.T) {
	p := rows()
	if !code.May(p) {
		t.Fatal("the program may not be")
	}
	for fun := range p.Funs {
		for _, x := range tableOf(p, fun) {
			// Where a Fun has no registers nothing may be that names one, whatever the field.
			empty := false
			for _, s := range []span{x.r, x.b, x.arg} {
				empty = empty || s.most < s.least
			}
			empty = empty || x.a.most < x.a.least && x.a.least == 0
			fields(t, p, fun, x, !empty)
		}
	}
}

// fields goes through the fields of a row; fine is whether the row may be at all in its Fun.
func fields(t *testing.T, p api.Prog, fun int, x row, fine bool) {
	t.Helper()
	right := func() api.Ins {
		i := api.Ins{Op: x.op, R: int(x.r.most), A: int(x.a.most), B: int(x.b.most), N: x.n.most}
		for range x.args {
			i.Args = append(i.Args, int(x.arg.most))
		}
		return i
	}
	hold := func(i api.Ins, want bool) {
		t.Helper()
		if code.MayIns(p, fun, i) != (want && fine) || okIns(p, fun, i) != (want && fine) {
			t.Errorf("in the Fun %d: %+v may be, or not: not %v", fun, i, want && fine)
		}
	}
	hold(right(), true)
	field := func(s span, put func(i *api.Ins, n int64)) {
		t.Helper()
		for _, n := range []int64{s.least - 1, s.least, s.most, s.most + 1, math.MinInt64, math.MaxInt64, math.MinInt32, math.MaxInt32, 1 << 32, -1 << 32} {
			i := right()
			put(&i, n)
			// Of an OCall what goes beside N is another Fun's.
			if x.op != api.OCall || i.N == x.n.least {
				hold(i, s.least <= n && n <= s.most)
			}
		}
	}
	field(x.r, func(i *api.Ins, n int64) { i.R = int(n) })
	field(x.a, func(i *api.Ins, n int64) { i.A = int(n) })
	field(x.b, func(i *api.Ins, n int64) { i.B = int(n) })
	field(x.n, func(i *api.Ins, n int64) { i.N = n })
	for at := range x.args {
		field(x.arg, func(i *api.Ins, n int64) { i.Args[at] = int(n) })
	}
	for n := range 12 {
		i := right()
		i.Args = make([]int, n)
		hold(i, n == x.args)
	}
}

// P7.1: the number of an OCall is that of a Fun that is no Thread, whatever the Args.
func TestCallee(t *testing.T) {
	p := rows()
	for fun := range p.Funs {
		for args := range 4 {
			for _, n := range []int64{math.MinInt64, -1, 0, 1, 2, 3, 4, 5, 6, 1 << 32, math.MaxInt64} {
				want := fun < 4 && (n == 0 && args == 2 || n == 2 && args == 1 || n == 4 && args == 0)
				i := api.Ins{Op: api.OCall, N: n, Args: make([]int, args)}
				if code.MayIns(p, fun, i) != want {
					t.Errorf("in the Fun %d: %+v: not %v", fun, i, want)
				}
			}
		}
	}
	// A Fun may call itself, or one that calls it.
	expect(t, "a circle", code.May(made(t, "func f() { } func g() { call f(); }")), true)
	p = made(t, "func f() { call g(); } func g() { }")
	p.Funs[1].Code = slices.Insert(p.Funs[1].Code, 0, api.Ins{Op: api.OCall, N: 0})
	expect(t, "a circle", code.May(p), true)
	p.Funs[1].Code[0].N = 1
	expect(t, "a circle of one", code.May(p), true)
}

// P7.1, P7.2: operations that are none, and numbers of Funs that are none.
func TestNone(t *testing.T) {
	p := rows()
	for op := range 256 {
		known := uint8(op) >= api.OConst && uint8(op) <= api.OReturn
		if known {
			continue
		}
		for _, i := range []api.Ins{{}, {R: 1, A: 2, B: 3, N: 4, Args: []int{1, 2}}, {A: -1, N: -1}, {Args: []int{1}}} {
			i.Op = uint8(op)
			r, writes := code.Writes(i)
			goal, jumps := code.Goal(i)
			expect(t, "of an operation that is none", []any{code.MayIns(p, 0, i), code.Reads(i), r, writes, goal, jumps}, []any{false, []int{}, 0, false, 0, false})
		}
		q := clone(p)
		q.Funs[0].Code[0].Op = uint8(op)
		q.Funs[2].Code[3].Op = uint8(op)
		expect(t, "a program of it", code.May(q), false)
	}
	for _, fun := range []int{math.MinInt, math.MinInt32, -2, -1, 5, 6, 256, math.MaxInt32, math.MaxInt} {
		expect(t, "of a Fun that is none", code.MayIns(p, fun, api.Ins{Op: api.OJump}), false)
		expect(t, "of a program of nothing", code.MayIns(api.Prog{}, fun, api.Ins{Op: api.OJump}), false)
	}
	expect(t, "of a program of nothing", code.MayIns(api.Prog{}, 0, api.Ins{Op: api.OConst}), false)
	expect(t, "without Mems", code.MayIns(api.Prog{Funs: p.Funs}, 0, api.Ins{Op: api.OLoad, A: -1}), false)
	expect(t, "without locks", code.MayIns(api.Prog{Funs: p.Funs}, 0, api.Ins{Op: api.OAcquire}), false)
}

// P7.1: of a program that may not be, an instruction is held against what there is.
func TestMayNot(t *testing.T) {
	p := api.Prog{Mems: []api.Mem{{}, {}}, Locks: []string{"", ""}, Funs: []api.Fun{
		{Params: 9, Regs: 5000}, {Params: -1, Regs: -1}, {Params: 1, Regs: math.MaxInt}, {Thread: true, Params: 1, Regs: math.MinInt},
	}}
	nine := make([]int, 9)
	for _, x := range []struct {
		fun  int
		i    api.Ins
		want bool
	}{
		{0, api.Ins{Op: api.OConst, R: 4999}, true},
		{0, api.Ins{Op: api.OConst, R: 5000}, false},
		{0, api.Ins{Op: api.OJump}, false},
		{0, api.Ins{Op: api.OCall, Args: nine}, true},
		{0, api.Ins{Op: api.OCall, Args: nine[1:]}, false},
		{0, api.Ins{Op: api.OCall, N: 1}, false},
		{0, api.Ins{Op: api.OCall, N: 2, Args: []int{4999}}, true},
		{0, api.Ins{Op: api.OCall, N: 3, Args: []int{0}}, false},
		{0, api.Ins{Op: api.OLoad, A: -1, N: 1}, true},
		{1, api.Ins{Op: api.OConst}, false},
		{1, api.Ins{Op: api.OConst, R: -1}, false},
		{1, api.Ins{Op: api.OStore, A: -1, B: -2}, false},
		{1, api.Ins{Op: api.OAcquire, N: 1}, true},
		{2, api.Ins{Op: api.OMove, R: math.MaxInt - 1, A: math.MaxInt - 1}, true},
		{2, api.Ins{Op: api.OMove, R: math.MaxInt}, false},
		{3, api.Ins{Op: api.OMove, R: math.MaxInt, A: math.MaxInt}, false},
		{3, api.Ins{Op: api.ORelease}, true},
	} {
		expect(t, written(x.i), code.MayIns(p, x.fun, x.i), x.want)
	}
	expect(t, "the program", code.May(p), false)
}

// P7.1: what a program has at the edges of what it may have, and behind them.
func TestEdges(t *testing.T) {
	for _, none := range []api.Prog{{}, {Mems: []api.Mem{}, Locks: []string{}, Funs: []api.Fun{}}} {
		expect(t, "nothing", code.May(none), true)
	}
	expect(t, "no Funs", code.May(api.Prog{Mems: []api.Mem{{Name: "x", Size: 1}}, Locks: []string{"k"}}), true)
	whole := rows()
	expect(t, "no Mems", code.May(api.Prog{Locks: whole.Locks, Funs: whole.Funs}), true)
	expect(t, "no Locks", code.May(api.Prog{Mems: whole.Mems, Funs: whole.Funs}), true)

	for size, want := range map[int]bool{math.MinInt: false, -1: false, 0: false, 1: true, 2: true, api.MaxSize: true, api.MaxSize + 1: false, 1 << 32: false, math.MaxInt: false} {
		for at := range whole.Mems {
			p := clone(whole)
			p.Mems[at].Size = size
			expect(t, "Size "+strconv.Itoa(size), code.May(p), want)
		}
	}
	for _, first := range []int64{math.MinInt64, -1, 0, math.MaxInt64} {
		p := clone(whole)
		p.Mems[1].First = first
		expect(t, "First", code.May(p), true)
	}

	jump := []api.Ins{{Op: api.OJump}}
	for n, want := range map[int]bool{0: true, 1: true, api.MaxThreads - 1: true, api.MaxThreads: true, api.MaxThreads + 1: false, 100: false} {
		var p api.Prog
		for i := range n {
			p.Funs = append(p.Funs, api.Fun{Name: "t" + strconv.Itoa(i), Thread: true, Code: jump}, api.Fun{Name: "f" + strconv.Itoa(i), Code: jump})
		}
		expect(t, strconv.Itoa(n)+" Threads", code.May(p), want)
	}

	one := func(f api.Fun) bool {
		f.Name = "f"
		q := clone(whole)
		q.Funs = append(q.Funs, f, api.Fun{Name: "behind", Code: jump})
		q.Funs[len(whole.Funs)].Name = "last"
		alone := code.May(api.Prog{Funs: []api.Fun{f}})
		if code.May(q) != alone {
			t.Errorf("%+v: alone %v, among others not", f, alone)
		}
		return alone
	}
	for params, want := range map[int]bool{math.MinInt: false, -1: false, 0: true, 1: true, api.MaxParams: true, api.MaxParams + 1: false, math.MaxInt: false} {
		what := "Params " + strconv.Itoa(params)
		expect(t, what, one(api.Fun{Params: params, Regs: api.MaxRegs, Code: jump}), want)
		expect(t, what+" of a Thread", one(api.Fun{Thread: true, Params: params, Regs: api.MaxRegs, Code: jump}), params == 0)
		if want {
			expect(t, what+", Regs as many", one(api.Fun{Params: params, Regs: params, Code: jump}), true)
		}
		expect(t, what+", Regs one fewer", one(api.Fun{Params: params, Regs: params - 1, Code: jump}), false)
	}
	for regs, want := range map[int]bool{math.MinInt: false, -1: false, 0: true, 1: true, api.MaxRegs: true, api.MaxRegs + 1: false, math.MaxInt: false} {
		what := "Regs " + strconv.Itoa(regs)
		expect(t, what, one(api.Fun{Regs: regs, Code: jump}), want)
		expect(t, what+" of a Thread", one(api.Fun{Thread: true, Regs: regs, Code: jump}), want)
	}
	for n, want := range map[int]bool{0: false, 1: true, api.MaxIns: true, api.MaxIns + 1: false, 10 * api.MaxIns: false} {
		expect(t, strconv.Itoa(n)+" instructions", one(api.Fun{Code: slices.Repeat(jump, n)}), want)
	}
}

// P7.1: each operation as the last instruction of a Fun, each of them at the edges of what it may be.
func TestLast(t *testing.T) {
	for fun := range rows().Funs {
		for _, x := range tableOf(rows(), fun) {
			p := rows()
			l := p.Funs[fun].Code
			i := api.Ins{Op: x.op, R: int(x.r.least), A: int(x.a.least), B: int(x.b.least), N: x.n.least, Args: make([]int, x.args)}
			l[len(l)-1] = i
			want := x.op == api.OJump || x.op == api.OReturn
			expect(t, written(i)+" as the last one", code.May(p), want && okIns(p, fun, i))
			p.Funs[fun].Code = append(l, api.Ins{Op: api.OJump})
			expect(t, written(i)+" as the last one but one", code.May(p), okIns(p, fun, i))
			if len(l) > 1 {
				l[0], l[len(l)-1] = i, api.Ins{Op: api.OJump}
				p.Funs[fun].Code = l
				expect(t, written(i)+" as the first one", code.May(p), okIns(p, fun, i))
			}
		}
	}
}

// P7.1: all names are names, no two alike, and there are no more of them than there may be.
func TestNames(t *testing.T) {
	places := func(p *api.Prog) []*string {
		return []*string{&p.Mems[0].Name, &p.Mems[1].Name, &p.Locks[0], &p.Locks[2], &p.Funs[0].Name, &p.Funs[1].Name, &p.Funs[4].Name}
	}
	count := len(places(&[]api.Prog{rows()}[0]))
	for at := range count {
		for _, name := range badNames() {
			p := rows()
			*places(&p)[at] = name
			expect(t, "the name "+name, code.May(p), false)
		}
		for _, name := range []string{"z", "_", "threads", "If", strings.Repeat("n", api.MaxName)} {
			p := rows()
			*places(&p)[at] = name
			expect(t, "the name "+name, code.May(p), true)
		}
		for other := range count {
			p := rows()
			l := places(&p)
			*l[at] = *l[other]
			expect(t, "alike", code.May(p), at == other)
		}
	}
	for at := range 3 {
		many := func(n int) api.Prog {
			p := rows()
			for i := len(p.Mems) + len(p.Locks) + len(p.Funs); i < n; i++ {
				name := "more" + strconv.Itoa(i)
				switch at {
				case 0:
					p.Mems = append(p.Mems, api.Mem{Name: name, Size: 1})
				case 1:
					p.Locks = append(p.Locks, name)
				case 2:
					p.Funs = append(p.Funs, api.Fun{Name: name, Code: []api.Ins{{Op: api.OJump}}})
				}
			}
			return p
		}
		expect(t, "one name fewer", code.May(many(api.MaxDecls-1)), true)
		expect(t, "as many names as there may be", code.May(many(api.MaxDecls)), true)
		expect(t, "one name more", code.May(many(api.MaxDecls+1)), false)
	}
}

// P7.1, P7.2: made programs, and such as were spoiled, against the chapter said in other words.
func TestJudged(t *testing.T) {
	m := &maker{seed: 1}
	seen := map[bool]int{}
	for range 20000 {
		p := m.program()
		if !code.May(p) {
			t.Fatalf("it may be: %+v", p)
		}
		for range 1 + m.next(2) {
			m.spoil(&p)
		}
		want := okProgram(p)
		seen[want]++
		if code.May(p) != want {
			t.Fatalf("not %v: %+v", want, p)
		}
	}
	if seen[true] < 2000 || seen[false] < 2000 {
		t.Error("programs that may be, and may not:", seen)
	}
}

func TestJudgedIns(t *testing.T) {
	m := &maker{seed: 2}
	seen := map[bool]int{}
	ops := map[uint8]int{}
	for range 10000 {
		p := m.program()
		for fun := range p.Funs {
			for range 3 {
				i := m.ins(p, fun)
				for range m.next(3) {
					m.spoilIns(p, &i)
				}
				in := fun + m.next(3) - 1
				want := okIns(p, in, i)
				if code.MayIns(p, in, i) != want {
					t.Fatalf("in the Fun %d not %v: %+v in %+v", in, want, i, p)
				}
				seen[want]++
				if want {
					ops[i.Op]++
				}
				parts(t, i)
			}
		}
	}
	for op := api.OConst; op <= api.OReturn; op++ {
		if ops[op] < 300 {
			t.Errorf("operation %d is seen %d times", op, ops[op])
		}
	}
	if seen[false] < 5000 {
		t.Error("instructions that may be, and may not:", seen)
	}
}

// parts holds what is read, written and jumped to against the table.
func parts(t *testing.T, i api.Ins) {
	t.Helper()
	reads, writes, goal := named(i)
	of := func(n int, does bool) []int {
		if does {
			return []int{n}
		}
		if n != 0 {
			t.Errorf("%d beside no: %+v", n, i)
		}
		return nil
	}
	expect(t, "what is read by "+written(i), code.Reads(i), reads)
	expect(t, "what is written by "+written(i), of(code.Writes(i)), writes)
	expect(t, "where one goes from "+written(i), of(code.Goal(i)), goal)
}

// P7.2: of each operation, whatever stands in its fields, also where it names them not.
func TestParts(t *testing.T) {
	for op := range 256 {
		for _, a := range []int{-2, -1, 0, 1, 7, math.MinInt, math.MaxInt} {
			for _, b := range []int{-1, 0, 7, a} {
				for _, args := range [][]int{nil, {5}, {-1}, {3, 2, 3, 3}, make([]int, 20)} {
					for _, n := range []int64{-1, 0, 5, math.MinInt64, math.MaxInt64} {
						parts(t, api.Ins{Op: uint8(op), R: b + 1, A: a, B: b, N: n, Args: args})
					}
				}
			}
		}
	}
	for _, x := range []struct {
		i    api.Ins
		want []int
	}{
		{api.Ins{Op: api.OConst, R: 1, N: 2}, nil},
		{api.Ins{Op: api.OMove, R: 1, A: 2}, []int{2}},
		{api.Ins{Op: api.OMove, R: 1, A: -1}, []int{-1}},
		{api.Ins{Op: api.OUnary, R: 1, A: 2, N: int64(api.Neg)}, []int{2}},
		{api.Ins{Op: api.OBinary, R: 1, A: 3, B: 2, N: int64(api.Add)}, []int{3, 2}},
		{api.Ins{Op: api.OBinary, R: 1, A: 2, B: 2, N: int64(api.Add)}, []int{2, 2}},
		{api.Ins{Op: api.OLoad, R: 1, A: -1, N: 2}, nil},
		{api.Ins{Op: api.OLoad, R: 1, A: 0, N: 2}, []int{0}},
		{api.Ins{Op: api.OStore, A: 3, B: 2, N: 1}, []int{3, 2}},
		{api.Ins{Op: api.OStore, A: -1, B: -1, N: 1}, []int{-1}},
		{api.Ins{Op: api.OAcquire, N: 1}, nil},
		{api.Ins{Op: api.ORelease, N: 1}, nil},
		{api.Ins{Op: api.OPrint, A: 4}, []int{4}},
		{api.Ins{Op: api.OCall, R: 1, N: 2, Args: []int{4, 3, 4}}, []int{4, 3, 4}},
		{api.Ins{Op: api.OJump, N: 2}, nil},
		{api.Ins{Op: api.OBranch, A: 3, N: 2}, []int{3}},
		{api.Ins{Op: api.OReturn, A: 3}, []int{3}},
	} {
		expect(t, written(x.i), code.Reads(x.i), x.want)
	}
}

// P7.3: what flat.Make made of a tree may be.
func TestMade(t *testing.T) {
	m := &maker{seed: 3}
	ops := map[uint8]int{}
	for range 3000 {
		s := m.text()
		p := made(t, s)
		if !code.May(p) || !okProgram(p) {
			t.Fatalf("it may be: %s", s)
		}
		for fun, f := range p.Funs {
			for _, i := range f.Code {
				if ops[i.Op]++; !code.MayIns(p, fun, i) {
					t.Fatalf("it may be: %+v of %s", i, s)
				}
			}
		}
	}
	for op := api.OConst; op <= api.OReturn; op++ {
		if ops[op] < 500 {
			t.Errorf("operation %d is seen %d times", op, ops[op])
		}
	}
	expect(t, "of no declarations", code.May(made(t, "")), true)
	var largest []string
	for i := range api.MaxDecls {
		largest = append(largest, "array a"+strconv.Itoa(i)+"[1024];")
	}
	expect(t, "of as many as there may be", code.May(made(t, strings.Join(largest, " "))), true)
}

// P7.4: in a program that may be all that is read and written, and to which one jumps, is there.
func TestWithin(t *testing.T) {
	m := &maker{seed: 4}
	count := 0
	for round := range 6000 {
		p := m.program()
		if round%3 == 0 {
			p = made(t, m.text())
		}
		m.spoil(&p)
		if !code.May(p) {
			continue
		}
		for _, f := range p.Funs {
			count++
			for at, i := range f.Code {
				within(t, f, at, i)
			}
		}
	}
	if count < 1000 {
		t.Error("only so many Funs:", count)
	}
}

func within(t *testing.T, f api.Fun, at int, i api.Ins) {
	t.Helper()
	regs := code.Reads(i)
	if r, writes := code.Writes(i); writes {
		regs = append(regs, r)
	}
	for _, r := range regs {
		if r < 0 || r >= f.Regs {
			t.Fatalf("the register %d at %d is not there: %+v", r, at, f)
		}
	}
	goal, jumps := code.Goal(i)
	if jumps && (goal < 0 || goal >= len(f.Code)) || at == len(f.Code)-1 && i.Op != api.OJump && i.Op != api.OReturn {
		t.Fatalf("at %d one goes to where there is nothing: %+v", at, f)
	}
}

// P7.5: another instruction that may be in the place of one, but the last one; names of Funs turned about.
func TestPlaced(t *testing.T) {
	m := &maker{seed: 5}
	for range 3000 {
		p := m.program()
		if len(p.Funs) == 0 {
			continue
		}
		fun := m.next(len(p.Funs))
		l := p.Funs[fun].Code
		at := m.next(len(l))
		other := m.ins(p, fun)
		for range m.next(2) {
			m.spoilIns(p, &other)
		}
		may := code.MayIns(p, fun, other)
		l[at] = other
		if at < len(l)-1 && code.May(p) != may {
			t.Fatalf("with an instruction in place of another one not %v: %d in %+v", may, at, p)
		}
		if ends := other.Op == api.OJump || other.Op == api.OReturn; at == len(l)-1 && code.May(p) != (may && ends) {
			t.Fatalf("with an instruction as the last one not %v: %+v", may && ends, p)
		}
	}
	for range 1000 {
		p := m.program()
		for i := range p.Funs {
			j := m.next(len(p.Funs))
			p.Funs[i].Name, p.Funs[j].Name = p.Funs[j].Name, p.Funs[i].Name
		}
		if !code.May(p) {
			t.Fatalf("with names turned about: %+v", p)
		}
	}
}

// change does something to a program, behind which it is the same, or is not.
type change struct {
	what string
	same bool
	do   func(p *api.Prog, i *api.Ins)
}

func changes() []change {
	return []change{
		{"nothing", true, func(p *api.Prog, i *api.Ins) {}},
		{"empty lists", true, func(p *api.Prog, i *api.Ins) { p.Funs[0].Code[1].Args, p.Funs[1].Code = []int{}, []api.Ins{} }},
		{"Op", false, func(p *api.Prog, i *api.Ins) { i.Op = api.OMove }},
		{"R", false, func(p *api.Prog, i *api.Ins) { i.R++ }},
		{"A", false, func(p *api.Prog, i *api.Ins) { i.A += 1 << 32 }},
		{"B", false, func(p *api.Prog, i *api.Ins) { i.B-- }},
		{"A and B", false, func(p *api.Prog, i *api.Ins) { i.A, i.B = i.B, i.A }},
		{"N", false, func(p *api.Prog, i *api.Ins) { i.N += 1 << 32 }},
		{"N turned", false, func(p *api.Prog, i *api.Ins) { i.N = -i.N }},
		{"an Arg", false, func(p *api.Prog, i *api.Ins) { i.Args[1]++ }},
		{"an Arg less", false, func(p *api.Prog, i *api.Ins) { i.Args = i.Args[:1] }},
		{"an Arg more", false, func(p *api.Prog, i *api.Ins) { i.Args = append(i.Args, 0) }},
		{"no Args", false, func(p *api.Prog, i *api.Ins) { i.Args = nil }},
		{"Args turned about", false, func(p *api.Prog, i *api.Ins) { slices.Reverse(i.Args) }},
		{"one instruction less", false, func(p *api.Prog, i *api.Ins) { p.Funs[0].Code = p.Funs[0].Code[:1] }},
		{"one instruction more", false, func(p *api.Prog, i *api.Ins) { p.Funs[0].Code = append(p.Funs[0].Code, api.Ins{}) }},
		{"no instructions", false, func(p *api.Prog, i *api.Ins) { p.Funs[0].Code = nil }},
		{"instructions turned about", false, func(p *api.Prog, i *api.Ins) { slices.Reverse(p.Funs[0].Code) }},
		{"a Fun's name", false, func(p *api.Prog, i *api.Ins) { p.Funs[0].Name = "F" }},
		{"a Thread", false, func(p *api.Prog, i *api.Ins) { p.Funs[0].Thread = true }},
		{"Params", false, func(p *api.Prog, i *api.Ins) { p.Funs[0].Params++ }},
		{"Regs", false, func(p *api.Prog, i *api.Ins) { p.Funs[0].Regs++ }},
		{"a Fun less", false, func(p *api.Prog, i *api.Ins) { p.Funs = p.Funs[:1] }},
		{"a Fun more", false, func(p *api.Prog, i *api.Ins) { p.Funs = append(p.Funs, api.Fun{}) }},
		{"Funs turned about", false, func(p *api.Prog, i *api.Ins) { slices.Reverse(p.Funs) }},
		{"no Funs", false, func(p *api.Prog, i *api.Ins) { p.Funs = nil }},
		{"a lock's name", false, func(p *api.Prog, i *api.Ins) { p.Locks[1] = "L" }},
		{"a lock less", false, func(p *api.Prog, i *api.Ins) { p.Locks = p.Locks[:1] }},
		{"a lock more", false, func(p *api.Prog, i *api.Ins) { p.Locks = append(p.Locks, "") }},
		{"locks turned about", false, func(p *api.Prog, i *api.Ins) { slices.Reverse(p.Locks) }},
		{"a Mem's name", false, func(p *api.Prog, i *api.Ins) { p.Mems[1].Name = "X" }},
		{"Size", false, func(p *api.Prog, i *api.Ins) { p.Mems[0].Size++ }},
		{"First", false, func(p *api.Prog, i *api.Ins) { p.Mems[0].First = -p.Mems[0].First }},
		{"a Mem less", false, func(p *api.Prog, i *api.Ins) { p.Mems = p.Mems[1:] }},
		{"a Mem more", false, func(p *api.Prog, i *api.Ins) { p.Mems = append(p.Mems, api.Mem{}) }},
		{"Mems turned about", false, func(p *api.Prog, i *api.Ins) { slices.Reverse(p.Mems) }},
	}
}

// P7.1, P7.6: the same, and what is not, asked either way about; whether it may be is not asked.
func TestSame(t *testing.T) {
	full := api.Prog{
		Mems:  []api.Mem{{Name: "x", Size: 1, First: 4}, {Name: "a", Size: 9}},
		Locks: []string{"k", "l"},
		Funs: []api.Fun{
			{Name: "f", Params: 1, Regs: 2, Code: []api.Ins{{Op: 77, R: 1, A: 2, B: 3, N: 4, Args: []int{5, 6}}, {Op: api.OReturn}}},
			{Name: "t", Thread: true},
		},
	}
	for _, x := range changes() {
		p := clone(full)
		x.do(&p, &p.Funs[0].Code[0])
		if code.Same(p, full) != x.same || code.Same(full, p) != x.same || !code.Same(p, p) {
			t.Errorf("%s: the same, or not: not %v", x.what, x.same)
		}
		if len(p.Funs) == 0 || len(p.Funs[0].Code) == 0 {
			continue
		}
		a, b := full.Funs[0].Code[0], p.Funs[0].Code[0]
		same := written(a) == written(b)
		if code.SameIns(a, b) != same || code.SameIns(b, a) != same || !code.SameIns(b, b) {
			t.Errorf("%s: the same instruction, or not: not %v", x.what, same)
		}
	}
	if !code.Same(api.Prog{}, api.Prog{Mems: []api.Mem{}, Locks: []string{}, Funs: []api.Fun{}}) || !code.SameIns(api.Ins{}, api.Ins{Args: []int{}}) {
		t.Error("empty lists")
	}
}

// P7.6: made programs, that were spoiled or not.
func TestSameMade(t *testing.T) {
	m := &maker{seed: 6}
	seen := map[bool]int{}
	for range 5000 {
		p := m.program()
		q := clone(p)
		if m.next(3) > 0 {
			m.spoil(&q)
		}
		same := written(p) == written(q)
		seen[same]++
		if code.Same(p, q) != same || code.Same(q, p) != same || !code.Same(q, q) {
			t.Fatalf("not %v: %+v and %+v", same, p, q)
		}
	}
	if seen[true] < 1000 || seen[false] < 1000 {
		t.Error("the same, and not:", seen)
	}
}

// P7.2, P7.7: Threads rise, each once, all Funs that are Threads and no others, also in a program that may not be.
func TestThreads(t *testing.T) {
	expect(t, "of nothing", code.Threads(api.Prog{}), []int{})
	expect(t, "of rows", code.Threads(rows()), []int{1, 3})
	all := api.Prog{Funs: slices.Repeat([]api.Fun{{Thread: true}}, 300)}
	if l := code.Threads(all); len(l) != 300 || l[0] != 0 || l[299] != 299 {
		t.Error("of Threads alone:", l)
	}
	m := &maker{seed: 7}
	for range 1000 {
		p := m.program()
		m.spoil(&p)
		l := code.Threads(p)
		if !slices.IsSorted(l) {
			t.Fatal("they do not rise:", l)
		}
		met := map[int]int{}
		for _, fun := range l {
			met[fun]++
		}
		for fun, f := range p.Funs {
			if want := map[bool]int{true: 1}[f.Thread]; met[fun] != want {
				t.Fatalf("%d stands %d times, not %d: %+v", fun, met[fun], want, p)
			}
			delete(met, fun)
		}
		if len(met) > 0 {
			t.Fatal("there is none:", met)
		}
	}
}

// roomy is a program with something else in the room behind each end.
func roomy(p api.Prog) api.Prog {
	p = clone(p)
	for fun := range p.Funs {
		f := &p.Funs[fun]
		for at := range f.Code {
			i := &f.Code[at]
			i.Args = append(i.Args, -5, 9999)[:len(i.Args)]
		}
		f.Code = append(f.Code, api.Ins{Op: 99}, api.Ins{Op: api.OBranch})[:len(f.Code)]
	}
	p.Mems = append(p.Mems, api.Mem{Name: "if"})[:len(p.Mems)]
	p.Locks = append(p.Locks, "if", "else")[:len(p.Locks)]
	p.Funs = append(p.Funs, api.Fun{Thread: true, Params: 3})[:len(p.Funs)]
	return p
}

// R3, P7.7: what is handed in is not changed, nor read behind its end; what is handed out is new each time.
func TestApart(t *testing.T) {
	m := &maker{seed: 8}
	for range 500 {
		p := m.program()
		q := roomy(p)
		before := written(p)
		if !code.May(q) || !code.Same(p, q) || !code.Same(q, p) {
			t.Fatalf("with room behind the ends: %+v", p)
		}
		threads := code.Threads(q)
		spoilList(threads)
		expect(t, "Threads, again", code.Threads(q), code.Threads(p))
		for _, f := range q.Funs {
			for _, i := range f.Code {
				first := code.Reads(i)
				kept := slices.Clone(first)
				second := code.Reads(i)
				spoilList(first)
				expect(t, "what is read, again", [][]int{second, code.Reads(i)}, [][]int{kept, kept})
			}
		}
		if written(p) != before || written(q) != before {
			t.Fatal("changed:", before)
		}
	}
	i := api.Ins{Op: api.OCall, Args: append(make([]int, 0, 8), 1, 2, 3)}
	spoilList(code.Reads(i))
	expect(t, "Args, and the room behind their end", i.Args[:8], []int{1, 2, 3, 0, 0, 0, 0, 0})
}

// spoilList writes into a list and the room behind its end.
func spoilList(l []int) {
	l = l[:cap(l)]
	for i := range l {
		l[i] = -77
	}
}

// R1, Limits: lists that are shared, much larger than what they are stored in: each call ends soon.
func TestShared(t *testing.T) {
	full := slices.Repeat([]api.Ins{{Op: api.OCall, Args: make([]int, api.MaxParams)}}, api.MaxIns)
	full[len(full)-1] = api.Ins{Op: api.OJump}
	var p api.Prog
	for i := range api.MaxDecls {
		p.Funs = append(p.Funs, api.Fun{Name: "f" + strconv.Itoa(i), Params: api.MaxParams, Regs: api.MaxRegs, Code: full})
	}
	expect(t, "as large as there may be", code.May(p), true)
	last := &p.Funs[api.MaxDecls-1]
	last.Code = slices.Clone(full)
	last.Code[api.MaxIns-2].Args = make([]int, api.MaxParams+1)
	expect(t, "with one Arg more in the last one", code.May(p), false)

	far := slices.Repeat([]api.Ins{{Op: api.OCall, N: api.MaxDecls - 1, Args: make([]int, 1<<22)}}, api.MaxIns)
	far[len(far)-1] = api.Ins{Op: api.OJump}
	for i := range p.Funs {
		p.Funs[i].Code = far
	}
	p.Funs[api.MaxDecls-1].Params = 1 << 22
	expect(t, "with more Args than there may be", code.May(p), false)
	expect(t, "one of them", code.MayIns(p, 0, far[0]), true)

	p = api.Prog{Funs: slices.Repeat([]api.Fun{{Name: "f", Code: slices.Repeat(full, 50)}}, 10000)}
	expect(t, "with more Funs than there may be", code.May(p), false)
	p.Funs = p.Funs[:1]
	expect(t, "with more instructions than there may be", code.May(p), false)
	expect(t, "a long name", code.May(api.Prog{Locks: []string{strings.Repeat("n", 1<<24)}}), false)
}

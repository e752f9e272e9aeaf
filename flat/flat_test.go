package flat_test

import (
	"fmt"
	"slices"
	"strconv"
	"strings"
	"testing"

	"bobbin/api"
	"bobbin/flat"
	"bobbin/parse"
	"bobbin/tree"
)

// all declares some of each Kind; the texts of the tables stand behind it: x and y are the Mems 0 and 3, a and b 1 and 2,
// k and l the locks 0 and 1, f and g the Funs 0 and 1; what stands behind it is the Fun 2.
const all = "global x = 1; array a[3]; lock k; func f(p, q) { } array b[1]; func g() { } lock l; global y = -2; "

// read is the program of a text.
func read(t *testing.T, s string) []api.Decl {
	t.Helper()
	l, _, err := parse.Parse(s)
	if err != api.OK {
		t.Fatalf("%q can't be read: %v", s, err)
	}
	return l
}

// made is what a program is made into, which there has to be.
func made(t *testing.T, l []api.Decl) api.Prog {
	t.Helper()
	p, err := flat.Make(l)
	if err != api.OK {
		t.Fatalf("%v of %v", err, l)
	}
	return p
}

// expect holds two things of one type against each other, all that is in them; an empty list may be nil.
func expect[T any](t *testing.T, what string, got, want T) {
	t.Helper()
	if g, w := fmt.Sprintf("%+v", got), fmt.Sprintf("%+v", want); g != w {
		t.Fatalf("%s:\n%s, not\n%s", what, g, w)
	}
}

// refused asks for an error, beside which there is no program.
func refused(t *testing.T, what string, l []api.Decl, want api.Errno) {
	t.Helper()
	p, err := flat.Make(l)
	if err != want {
		t.Errorf("%s: %v, not %v", what, err, want)
	}
	if len(p.Mems)+len(p.Locks)+len(p.Funs) != 0 {
		t.Errorf("%s: a program beside %v", what, err)
	}
}

// body holds what the last declaration of a text is made into against instructions, which have registers below regs.
// Behind those that end by no OReturn stand two more, with a register more.
func body(t *testing.T, s string, regs int, want ...api.Ins) {
	t.Helper()
	l := read(t, s)
	p := made(t, l)
	d, f := l[len(l)-1], p.Funs[len(p.Funs)-1]
	if len(want) == 0 || want[len(want)-1].Op != api.OReturn {
		want = append(want, constant(regs, 0), back(regs))
		regs++
	}
	expect(t, s, f, api.Fun{Name: d.Name, Thread: d.Kind == api.Thread, Params: len(d.Params), Regs: regs, Code: settled(want)})
}

// P6.1: the chapter's examples.
func TestExamples(t *testing.T) {
	expect(t, "x + 2", made(t, read(t, "global x = 1; thread t { x = x + 2; }")), api.Prog{
		Mems: []api.Mem{{Name: "x", Size: 1, First: 1}},
		Funs: []api.Fun{{Name: "t", Thread: true, Regs: 4, Code: []api.Ins{
			{Op: api.OLoad, R: 0, A: -1, N: 0},
			{Op: api.OConst, R: 1, N: 2},
			{Op: api.OBinary, R: 2, A: 0, B: 1, N: int64(api.Add)},
			{Op: api.OStore, A: -1, B: 2, N: 0},
			{Op: api.OConst, R: 3, N: 0},
			{Op: api.OReturn, A: 3},
		}}},
	})
	expect(t, "while true", made(t, read(t, "thread t { while true { } }")).Funs[0].Code, []api.Ins{
		{Op: api.OConst, R: 0, N: 1}, {Op: api.OBranch, A: 0, N: 3}, {Op: api.OJump, N: 0},
		{Op: api.OConst, R: 1}, {Op: api.OReturn, A: 1},
	})
}

// P6.1: the program of a tree, of all Kinds of declarations and of none.
func TestDecls(t *testing.T) {
	empty := []api.Ins{constant(0, 0), back(0)}
	expect(t, "all", made(t, read(t, all+"thread t { }")), api.Prog{
		Mems:  []api.Mem{{Name: "x", Size: 1, First: 1}, {Name: "a", Size: 3}, {Name: "b", Size: 1}, {Name: "y", Size: 1, First: -2}},
		Locks: []string{"k", "l"},
		Funs: []api.Fun{
			{Name: "f", Params: 2, Regs: 3, Code: []api.Ins{constant(2, 0), back(2)}},
			{Name: "g", Regs: 1, Code: empty},
			{Name: "t", Thread: true, Regs: 1, Code: empty},
		},
	})
	expect(t, "edges", made(t, read(t, "global least = -9223372036854775808; array most[1024]; global great = 9223372036854775807;")), api.Prog{
		Mems: []api.Mem{{Name: "least", Size: 1, First: -1 << 63}, {Name: "most", Size: api.MaxSize}, {Name: "great", Size: 1, First: 1<<63 - 1}},
	})
	for _, none := range [][]api.Decl{nil, {}} {
		expect(t, "no declarations", made(t, none), api.Prog{})
	}
	// What is behind may be named.
	expect(t, "behind", made(t, read(t, "thread t { call f(); with l { x = a[1]; } } lock k; func g() { } func f() { } global y = 1; lock l; array a[2]; global x = 1;")).Funs[0].Code,
		[]api.Ins{call(0, 2), acquire(1), constant(1, 1), load(2, 1, 1), store(2, -1, 2), release(1), constant(3, 0), back(3)})
}

// P6.1: each row of the table of expressions, wherever one may stand; what an instruction does not name is 0.
func TestExprs(t *testing.T) {
	const ahead = "func n(v) { var w = v < v; E }" // v is the register 0, w 2
	for _, x := range []struct {
		e string
		piece
		regs int
	}{
		{"0", piece{[]api.Ins{constant(3, 0)}, 3}, 4},
		{"9223372036854775807", piece{[]api.Ins{constant(3, 1<<63-1)}, 3}, 4},
		{"v", piece{nil, 0}, 3},
		{"x", piece{[]api.Ins{load(3, 0, -1)}, 3}, 4},
		{"y", piece{[]api.Ins{load(3, 3, -1)}, 3}, 4},
		{"a[v]", piece{[]api.Ins{load(3, 1, 0)}, 3}, 4},
		{"b[5]", piece{[]api.Ins{constant(3, 5), load(4, 2, 3)}, 4}, 5},
		{"a[b[y]]", piece{[]api.Ins{load(3, 3, -1), load(4, 2, 3), load(5, 1, 4)}, 5}, 6},
		{"-v", piece{[]api.Ins{unary(3, api.Neg, 0)}, 3}, 4},
		{"-4", piece{[]api.Ins{constant(3, 4), unary(4, api.Neg, 3)}, 4}, 5},
		{"v + v", piece{[]api.Ins{binary(3, api.Add, 0, 0)}, 3}, 4},
		{"v - x", piece{[]api.Ins{load(3, 0, -1), binary(4, api.Sub, 0, 3)}, 4}, 5},
		{"x * v", piece{[]api.Ins{load(3, 0, -1), binary(4, api.Mul, 3, 0)}, 4}, 5},
		{"x / x", piece{[]api.Ins{load(3, 0, -1), load(4, 0, -1), binary(5, api.Div, 3, 4)}, 5}, 6},
		{"7 % 2", piece{[]api.Ins{constant(3, 7), constant(4, 2), binary(5, api.Mod, 3, 4)}, 5}, 6},
		{"1 - 2 - 3", piece{[]api.Ins{constant(3, 1), constant(4, 2), binary(5, api.Sub, 3, 4), constant(6, 3), binary(7, api.Sub, 5, 6)}, 7}, 8},
		{"1 - (2 - 3)", piece{[]api.Ins{constant(3, 1), constant(4, 2), constant(5, 3), binary(6, api.Sub, 4, 5), binary(7, api.Sub, 3, 6)}, 7}, 8},
		{"a[1] + a[1]", piece{[]api.Ins{constant(3, 1), load(4, 1, 3), constant(5, 1), load(6, 1, 5), binary(7, api.Add, 4, 6)}, 7}, 8},
		{"false", piece{[]api.Ins{constant(3, 0)}, 3}, 4},
		{"true", piece{[]api.Ins{constant(3, 1)}, 3}, 4},
		{"w", piece{nil, 2}, 3},
		{"!w", piece{[]api.Ins{unary(3, api.Not, 2)}, 3}, 4},
		{"!!w", piece{[]api.Ins{unary(3, api.Not, 2), unary(4, api.Not, 3)}, 4}, 5},
		{"v < 1", piece{[]api.Ins{constant(3, 1), binary(4, api.Less, 0, 3)}, 4}, 5},
		{"v > 1", piece{[]api.Ins{constant(3, 1), binary(4, api.Less, 3, 0)}, 4}, 5},
		{"v <= v", piece{[]api.Ins{binary(3, api.LessEq, 0, 0)}, 3}, 4},
		{"x >= y", piece{[]api.Ins{load(3, 3, -1), load(4, 0, -1), binary(5, api.LessEq, 3, 4)}, 5}, 6},
		{"v == x", piece{[]api.Ins{load(3, 0, -1), binary(4, api.Equal, 0, 3)}, 4}, 5},
		{"x != v", piece{[]api.Ins{load(3, 0, -1), binary(4, api.Unlike, 3, 0)}, 4}, 5},
		{"w && true", piece{[]api.Ins{constant(3, 1), binary(4, api.And, 2, 3)}, 4}, 5},
		{"false || w", piece{[]api.Ins{constant(3, 0), binary(4, api.Or, 3, 2)}, 4}, 5},
		{"w && v < 0 || w", piece{[]api.Ins{constant(3, 0), binary(4, api.Less, 0, 3), binary(5, api.And, 2, 4), binary(6, api.Or, 5, 2)}, 6}, 7},
	} {
		in := func(s string, regs int, behind ...api.Ins) {
			t.Helper()
			s = all + strings.Replace(ahead, "E", strings.Replace(s, "E", x.e, 1), 1)
			body(t, s, regs, slices.Concat([]api.Ins{binary(1, api.Less, 0, 0), move(2, 1)}, x.code, behind)...)
		}
		in("var u = E;", x.regs+1, move(x.regs, x.r))
		if strings.ContainsAny(x.e, "<>=!&|w") || x.e == "true" || x.e == "false" {
			in("w = E;", x.regs, move(2, x.r))
			in("if E { }", x.regs, branch(x.r, 1))
			in("while E { }", x.regs, branch(x.r, 2), jump(-1-len(x.code)))
			continue
		}
		in("print E;", x.regs, show(x.r))
		in("v = E;", x.regs, move(0, x.r))
		in("y = E;", x.regs, store(3, -1, x.r))
		in("a[E] = v;", x.regs, store(1, x.r, 0))
		in("b[v] = E;", x.regs, store(2, 0, x.r))
		in("call f(v, E);", x.regs+1, call(x.regs, 0, 0, x.r))
		in("return E;", x.regs, back(x.r))
	}
}

// P6.1: each row of the table of statements, but for If and While.
func TestStmts(t *testing.T) {
	for _, x := range []struct {
		s    string
		regs int
		want []api.Ins
	}{
		{"", 0, nil},
		{"var v = 5;", 2, []api.Ins{constant(0, 5), move(1, 0)}},
		{"var v = 5; var w = v;", 3, []api.Ins{constant(0, 5), move(1, 0), move(2, 1)}},
		{"var v = 5; v = v;", 2, []api.Ins{constant(0, 5), move(1, 0), move(1, 1)}},
		{"var v = x; v = x; x = v;", 3, []api.Ins{load(0, 0, -1), move(1, 0), load(2, 0, -1), move(1, 2), store(0, -1, 1)}},
		{"var v = x; print v + x; print x + v;", 6, []api.Ins{load(0, 0, -1), move(1, 0), load(2, 0, -1), binary(3, api.Add, 1, 2), show(3), load(4, 0, -1), binary(5, api.Add, 4, 1), show(5)}},
		{"x = 1; y = x;", 2, []api.Ins{constant(0, 1), store(0, -1, 0), load(1, 0, -1), store(3, -1, 1)}},
		{"a[1] = 2;", 2, []api.Ins{constant(0, 1), constant(1, 2), store(1, 0, 1)}},
		{"b[a[0]] = b[x];", 4, []api.Ins{constant(0, 0), load(1, 1, 0), load(2, 0, -1), load(3, 2, 2), store(2, 1, 3)}},
		{"with k { }", 0, []api.Ins{acquire(0), release(0)}},
		{"with l { with k { print 1; } }", 1, []api.Ins{acquire(1), acquire(0), constant(0, 1), show(0), release(0), release(1)}},
		{"with l { } with k { x = 1; } with l { }", 1, []api.Ins{acquire(1), release(1), acquire(0), constant(0, 1), store(0, -1, 0), release(0), acquire(1), release(1)}},
		{"print 3; print 4;", 2, []api.Ins{constant(0, 3), show(0), constant(1, 4), show(1)}},
		{"call g();", 1, []api.Ins{call(0, 1)}},
		{"call f(7, x); call g();", 4, []api.Ins{constant(0, 7), load(1, 0, -1), call(2, 0, 0, 1), call(3, 1)}},
		{"var v = call g();", 2, []api.Ins{call(0, 1), move(1, 0)}},
		{"var v = call g(); v = call f(v, v); print v;", 3, []api.Ins{call(0, 1), move(1, 0), call(2, 0, 1, 1), move(1, 2), show(1)}},
		{"var v = call f(1, 2); var w = call f(v, 3);", 7, []api.Ins{constant(0, 1), constant(1, 2), call(2, 0, 0, 1), move(3, 2), constant(4, 3), call(5, 0, 3, 4), move(6, 5)}},
	} {
		for _, kind := range []string{"thread n {", "func n() {"} {
			body(t, all+kind+x.s+"}", x.regs, x.want...)
		}
	}
}

// P6.1: If and While, with and without statements in them, and within one another.
func TestJumps(t *testing.T) {
	// v is the register 0, w is 2, of the code below 2 instructions.
	ahead := []api.Ins{binary(1, api.Less, 0, 0), move(2, 1)}
	for _, x := range []struct {
		s    string
		regs int
		want []api.Ins
	}{
		{"if w { } else { }", 3, []api.Ins{branch(2, 1)}},
		{"if w { print v; }", 3, []api.Ins{branch(2, 2), show(0)}},
		{"if w { print v; } else { }", 3, []api.Ins{branch(2, 2), show(0)}},
		{"if w { } else { print v; }", 3, []api.Ins{branch(2, 2), jump(2), show(0)}},
		{"if w { print v; } else { print 1; }", 4, []api.Ins{branch(2, 3), show(0), jump(3), constant(3, 1), show(3)}},
		{"if true { print v; } print v;", 4, []api.Ins{constant(3, 1), branch(3, 2), show(0), show(0)}},
		{"if w { if w { print v; } }", 3, []api.Ins{branch(2, 3), branch(2, 2), show(0)}},
		{"if w { if w { } } else { if w { } }", 3, []api.Ins{branch(2, 3), branch(2, 1), jump(2), branch(2, 1)}},
		{"if w { if w { print v; } else { x = v; } } else { y = v; }", 3,
			[]api.Ins{branch(2, 6), branch(2, 3), show(0), jump(2), store(0, -1, 0), jump(2), store(3, -1, 0)}},
		{"if w { } else { if w { } else { print v; } }", 3, []api.Ins{branch(2, 2), jump(4), branch(2, 2), jump(2), show(0)}},
		{"while w { }", 3, []api.Ins{branch(2, 2), jump(-1)}},
		{"while w { print v; }", 3, []api.Ins{branch(2, 3), show(0), jump(-2)}},
		{"while v < 9 { v = v + 1; } print v;", 7,
			[]api.Ins{constant(3, 9), binary(4, api.Less, 0, 3), branch(4, 5), constant(5, 1), binary(6, api.Add, 0, 5), move(0, 6), jump(-6), show(0)}},
		{"while w { while !w { print v; } }", 4, []api.Ins{branch(2, 6), unary(3, api.Not, 2), branch(3, 3), show(0), jump(-3), jump(-5)}},
		{"while w { while w { } while w { } }", 3, []api.Ins{branch(2, 6), branch(2, 2), jump(-1), branch(2, 2), jump(-1), jump(-5)}},
		{"if w { while w { } } else { while w { } }", 3, []api.Ins{branch(2, 4), branch(2, 2), jump(-1), jump(3), branch(2, 2), jump(-1)}},
		{"while w { if w { } else { w = w; } }", 3, []api.Ins{branch(2, 5), branch(2, 2), jump(2), move(2, 2), jump(-4)}},
		{"with k { if w { print v; } }", 3, []api.Ins{acquire(0), branch(2, 2), show(0), release(0)}},
		{"if w { with k { } } else { with l { } }", 3, []api.Ins{branch(2, 4), acquire(0), release(0), jump(3), acquire(1), release(1)}},
		{"while w { with k { with l { } } }", 3, []api.Ins{branch(2, 6), acquire(0), acquire(1), release(1), release(0), jump(-5)}},
	} {
		body(t, all+"func n(v) { var w = v < v; "+x.s+" }", x.regs, append(slices.Clone(ahead), x.want...)...)
		body(t, all+"func n(v) { var w = v < v; "+x.s+" return v; }", x.regs, slices.Concat(ahead, x.want, []api.Ins{back(0)})...)
	}
	// In each Fun instructions are numbered from 0 on.
	for _, f := range made(t, read(t, "thread t { while true { } } func g() { while true { } }")).Funs {
		expect(t, f.Name, f.Code[2], api.Ins{Op: api.OJump, N: 0})
	}
}

// P6.1: local ones set in a block, and used behind it; in each Fun registers are taken anew.
func TestLocals(t *testing.T) {
	body(t, all+"thread n { var v = 1; if true { v = 2; var w = v; print w; } print v; }", 5,
		constant(0, 1), move(1, 0), constant(2, 1), branch(2, 5), constant(3, 2), move(1, 3), move(4, 1), show(4), show(1))
	body(t, all+"thread n { while true { var v = 1; with k { var w = call g(); v = w; } print v; } var u = 2; print u; }", 7,
		constant(0, 1), branch(0, 10), constant(1, 1), move(2, 1), acquire(0), call(3, 1), move(4, 3), move(2, 4), release(0), show(2), jump(-10),
		constant(5, 2), move(6, 5), show(6))
	body(t, all+"thread n { if true { } else { var v = 1; print v; } var w = x; w = call f(w, x); }", 7,
		constant(0, 1), branch(0, 2), jump(4), constant(1, 1), move(2, 1), show(2), load(3, 0, -1), move(4, 3), load(5, 0, -1), call(6, 0, 4, 5), move(4, 6))
	l := read(t, "func f(p, q) { var v = q; } func g(q, p) { var v = q; return p; } thread n { var v = 1; } thread m { var p = true; var v = p; }")
	for i, want := range [][]api.Ins{
		{move(2, 1), constant(3, 0), back(3)},
		{move(2, 0), back(1)},
		{constant(0, 1), move(1, 0), constant(2, 0), back(2)},
		{constant(0, 1), move(1, 0), move(2, 1), constant(3, 0), back(3)},
	} {
		f := made(t, l).Funs[i]
		expect(t, f.Name, f.Code, want)
	}
}

// P6.1: Funs that end by a Return, an If, a While, and by nothing at all; the parameters, up to as many as there may be.
func TestEnds(t *testing.T) {
	for s, want := range map[string][]api.Ins{
		"func n() { }":                                     {constant(0, 0), back(0)},
		"func n() { return 4; }":                           {constant(0, 4), back(0)},
		"func n(p) { return p; }":                          {back(0)},
		"func n(p, q, r, s, u, v, w, z) { return z; }":     {back(7)},
		"func n(p, q, r, s, u, v, w, z) { return u + p; }": {binary(8, api.Add, 4, 0), back(8)},
		"func n(p, q, r, s, u, v, w, z) { }":               {constant(8, 0), back(8)},
		"func n(p) { if true { } return p; }":              {constant(1, 1), branch(1, 1), back(0)},
		"func n(p) { if true { print p; } }":               {constant(1, 1), branch(1, 2), show(0), constant(2, 0), back(2)},
		"func n(p) { if true { } else { print p; } }":      {constant(1, 1), branch(1, 2), jump(2), show(0), constant(2, 0), back(2)},
		"func n(p) { while true { } }":                     {constant(1, 1), branch(1, 2), jump(-2), constant(2, 0), back(2)},
		"func n(p) { print p; }":                           {show(0), constant(1, 0), back(1)},
		"lock k; thread n { with k { } }":                  {acquire(0), release(0), constant(0, 0), back(0)},
		"func f(p, q, r, s, u, v, w, z) { } func n(i) { call f(i, 1, i, 1, i, 1, i, i); }": {
			constant(1, 1), constant(2, 1), constant(3, 1), call(4, 0, 0, 1, 0, 2, 0, 3, 0, 0), constant(5, 0), back(5)},
	} {
		l := read(t, s)
		p := made(t, l)
		f := p.Funs[len(p.Funs)-1]
		expect(t, s, f.Code, settled(want))
		expect(t, s, f.Params, len(l[len(l)-1].Params))
	}
}

// P6.1: many programs become what they were made together with.
func TestMade(t *testing.T) {
	m := &maker{seed: 1}
	ops, ins := map[uint8]int{}, 0
	for range 3000 {
		l, want := m.program()
		p := made(t, l)
		expect(t, fmt.Sprint(l), p, want)
		for _, f := range p.Funs {
			ins = max(ins, len(f.Code))
			for _, i := range f.Code {
				ops[i.Op]++
			}
		}
	}
	for op := api.OConst; op <= api.OReturn; op++ {
		if ops[op] < 1000 {
			t.Errorf("operation %d is seen %d times", op, ops[op])
		}
	}
	if ins < 100 {
		t.Error("no Fun has more instructions than", ins)
	}
}

// named are the registers that an instruction reads, the one that it writes (or none, -1), and the one to which it jumps (or -1).
func named(i api.Ins) (reads []int, writes, goal int) {
	switch writes, goal = -1, -1; i.Op {
	case api.OConst:
		writes = i.R
	case api.OMove, api.OUnary:
		reads, writes = []int{i.A}, i.R
	case api.OBinary:
		reads, writes = []int{i.A, i.B}, i.R
	case api.OLoad:
		reads, writes = []int{max(i.A, 0)}[:min(1, i.A+1)], i.R
	case api.OStore:
		reads = []int{i.B, i.A}[:1+min(1, i.A+1)]
	case api.OPrint, api.OReturn:
		reads = []int{i.A}
	case api.OCall:
		reads, writes = i.Args, i.R
	case api.OJump:
		goal = int(i.N)
	case api.OBranch:
		reads, goal = []int{i.A}, int(i.N)
	}
	return reads, writes, goal
}

// P6.2: what is read was set ahead, jumps lead to instructions, and each Fun ends by an OReturn.
func TestForward(t *testing.T) {
	m := &maker{seed: 2}
	for range 1500 {
		l, _ := m.program()
		for _, f := range made(t, l).Funs {
			forward(t, f)
		}
	}
	for _, f := range made(t, read(t, "func f(p) { } thread t { if true { var v = 1; } else { while true { var w = call f(1); } } var u = 2; print u; }")).Funs {
		forward(t, f)
	}
}

// forward holds a Fun against P6.2.
func forward(t *testing.T, f api.Fun) {
	t.Helper()
	set := make([]bool, f.Regs)
	for r := range f.Params {
		set[r] = true
	}
	for at, i := range f.Code {
		reads, writes, goal := named(i)
		for _, r := range reads {
			if r < 0 || r >= f.Regs || !set[r] {
				t.Fatalf("%s: the register %d is read at %d, and not set ahead: %+v", f.Name, r, at, f.Code)
			}
		}
		if writes >= f.Regs || goal >= len(f.Code) {
			t.Fatalf("%s: at %d is named what is not there: %+v", f.Name, at, f.Code)
		}
		if writes >= 0 {
			set[writes] = true
		}
	}
	if n := len(f.Code); n == 0 || f.Code[n-1].Op != api.OReturn {
		t.Fatalf("%s does not end by an OReturn: %+v", f.Name, f.Code)
	}
	if slices.Contains(set, false) {
		t.Fatalf("%s has a register more than it sets: %+v", f.Name, f.Code)
	}
}

// count counts the statements of each Kind, also within others.
func count(l []api.Stmt, of map[uint8]int) {
	for _, s := range l {
		of[s.Kind]++
		count(s.Body, of)
		count(s.Else, of)
	}
}

// P6.3: as many OAcquire as ORelease, and as With; as many OPrint as Print, and OCall as Call, in each Fun.
func TestAsLarge(t *testing.T) {
	m := &maker{seed: 3}
	for range 1500 {
		l, _ := m.program()
		p := made(t, l)
		funs := p.Funs
		for _, d := range l {
			if d.Kind < api.Func {
				continue
			}
			of, ops := map[uint8]int{}, map[uint8]int{}
			count(d.Body, of)
			for _, i := range funs[0].Code {
				ops[i.Op]++
			}
			funs = funs[1:]
			if ops[api.OAcquire] != of[api.With] || ops[api.ORelease] != of[api.With] || ops[api.OPrint] != of[api.Print] || ops[api.OCall] != of[api.Call] {
				t.Fatalf("%+v of %+v", ops, of)
			}
		}
	}
}

// P6.4: of each declaration there is one, in their row, by its name.
func TestOneByOne(t *testing.T) {
	m := &maker{seed: 4}
	for range 1000 {
		l, _ := m.program()
		p := made(t, l)
		for _, d := range l {
			switch d.Kind {
			case api.Global:
				expect(t, d.Name, p.Mems[0], api.Mem{Name: d.Name, Size: 1, First: d.N})
				p.Mems = p.Mems[1:]
			case api.Array:
				expect(t, d.Name, p.Mems[0], api.Mem{Name: d.Name, Size: int(d.N)})
				p.Mems = p.Mems[1:]
			case api.Lock:
				expect(t, "a lock", p.Locks[0], d.Name)
				p.Locks = p.Locks[1:]
			default:
				f := p.Funs[0]
				if f.Name != d.Name || f.Thread != (d.Kind == api.Thread) || f.Params != len(d.Params) {
					t.Fatalf("%+v of %+v", f, d)
				}
				p.Funs = p.Funs[1:]
			}
		}
		if len(p.Mems)+len(p.Locks)+len(p.Funs) > 0 {
			t.Fatalf("more than there are declarations: %+v", p)
		}
	}
}

// P6.5: with a thread more behind them all that the declarations ahead of it were made into is as it was.
func TestOneMore(t *testing.T) {
	m := &maker{seed: 5}
	for range 1000 {
		l, p := m.program()
		more := api.Decl{Kind: api.Thread, Name: "more"}
		m.number["more"] = len(p.Funs)
		f := m.body(&more)
		p.Funs = append(p.Funs, f)
		expect(t, "one more", made(t, append(l, more)), p)
	}
	expect(t, "behind none", made(t, read(t, "thread t { print 1; }")).Funs, []api.Fun{
		{Name: "t", Thread: true, Regs: 2, Code: []api.Ins{constant(0, 1), show(0), constant(1, 0), back(1)}}})
}

// P6.1: what types.Check refuses, of each error; it is told ahead of a Fun that is too large.
func TestRefused(t *testing.T) {
	large := "thread large { " + strings.Repeat("print 1; ", api.MaxRegs) + "} "
	threads := ""
	for i := range api.MaxThreads + 1 {
		threads += "thread t" + strconv.Itoa(i) + " { } "
	}
	for s, want := range map[string]api.Errno{
		"thread t { print z; }":                                      api.ErrName,
		"global x = 1; lock x;":                                      api.ErrName,
		"func f(p, p) { }":                                           api.ErrName,
		"thread t { if true { var v = 1; } print v; }":               api.ErrName,
		"thread t { with k { } }":                                    api.ErrName,
		"thread t { if 1 { } }":                                      api.ErrType,
		"thread t { return 1; }":                                     api.ErrType,
		"lock k; thread t { print k; }":                              api.ErrType,
		"func f() { } thread t { call f(1); }":                       api.ErrType,
		"func f() { call f(); }":                                     api.ErrLoop,
		"func f() { call g(); } func g() { call f(); } thread t { }": api.ErrLoop,
		threads: api.ErrTooLarge,
	} {
		refused(t, s, read(t, s), want)
		refused(t, "too large, and "+s, read(t, large+s), want)
		refused(t, s+", and too large", read(t, s+large), want)
	}
	refused(t, "too large", read(t, large), api.ErrTooLarge)
	for _, l := range [][]api.Decl{
		{{Kind: api.Thread, Name: "if"}}, {{Kind: 0, Name: "x"}}, {{Kind: 6, Name: "x"}}, {{Kind: 255, Name: "x"}},
		{{Kind: api.Array, Name: "a"}}, {{Kind: api.Thread, Name: "t", Body: []api.Stmt{{}}}},
		{{Kind: api.Thread, Name: "t", Body: []api.Stmt{{Kind: 200}}}},
		{{Kind: api.Thread, Name: "t", Body: []api.Stmt{{Kind: api.Print}}}},
		{{Kind: api.Thread, Name: "t", Body: []api.Stmt{{Kind: api.Print, E: []api.Expr{{Kind: 100}}}}}},
		slices.Repeat([]api.Decl{{Kind: api.Lock, Name: "k"}}, api.MaxDecls+1),
	} {
		refused(t, "no program", l, api.ErrForm)
		refused(t, "too large, and no program", append(read(t, large), l...), api.ErrForm)
	}
	// Where there are too many threads, nothing of their Bodies is told.
	refused(t, "too many threads", read(t, threads+"thread t { print z; }"), api.ErrTooLarge)
}

// many is the program of a text, in which the statement behind the @ stands as often as asked.
func many(t *testing.T, s string, often int) []api.Decl {
	t.Helper()
	at := strings.Index(s, "@")
	l := read(t, strings.Replace(s, "@", "", 1))
	var repeat func(l []api.Stmt) []api.Stmt
	repeat = func(l []api.Stmt) (out []api.Stmt) {
		for _, x := range l {
			n := 1
			if x.At == at {
				n = often
			}
			x.Body, x.Else = repeat(x.Body), repeat(x.Else)
			out = append(out, slices.Repeat([]api.Stmt{x}, n)...)
		}
		return out
	}
	for i := range l {
		l[i].Body = repeat(l[i].Body)
	}
	return l
}

// locals are as many local ones, of an instruction and a register each.
func locals(n int) string {
	s := ""
	for i := range n {
		s += "var v_" + strconv.FormatInt(int64(i), 36) + "=p;"
	}
	return s
}

// P6.1, Limits: as many registers, and instructions, as a Fun may have, and one more.
func TestLimits(t *testing.T) {
	const regs, ins = api.MaxRegs, api.MaxIns
	for _, x := range []struct {
		s         string
		often     int // at the limit
		regs, ins int
	}{
		{"thread t { @print 1; }", regs - 1, regs, 2 * regs},
		{"thread t { @x = 1; } global x = 2;", regs - 1, regs, 2 * regs},
		{"func f(p) { @print p; }", ins - 2, 2, ins},
		{"func f(p) { @print p; return p; }", ins - 1, 1, ins},
		{"func f(p, q) { @print p; return q + 1; }", ins - 3, 4, ins},
		{"func f(p) { @if true { } return p; }", regs - 1, regs, 2*regs - 1},
		{"func f(p) { @call g(p); return p; } func g(p) { }", regs - 1, regs, regs},
		{"func f(p) { @p = call g(); } func g() { }", regs - 2, regs, 2*regs - 2},
		{"thread t { @with k { } } lock k;", ins/2 - 1, 1, ins},
		{"func f(p) { var w = p < 1; if w { with k { @p = p; } } else { while w { if w { } } } return p; } lock k;", ins - 11, 4, ins},
		{"func f(p) { var w = p < 1; if w { with k { } } else { while w { if w { } @p = p; } } return p; } lock k;", ins - 11, 4, ins},
	} {
		f := made(t, many(t, x.s, x.often)).Funs[0]
		if f.Regs != x.regs || len(f.Code) != x.ins {
			t.Errorf("%s: %d registers, %d instructions, not %d, %d", x.s, f.Regs, len(f.Code), x.regs, x.ins)
		}
		forward(t, f)
		past := many(t, x.s, x.often+1)
		refused(t, x.s, past, api.ErrTooLarge)
		refused(t, x.s, slices.Concat(read(t, "thread ahead { print 1; }"), past, read(t, "thread behind { }")), api.ErrTooLarge)
		refused(t, x.s, many(t, x.s, 3*x.often), api.ErrTooLarge)
	}
	for ends, n := range map[string]int{"} ": regs - 2, "return p; } ": regs - 1, "return p + p; } ": regs - 2, "var z = p + 1; } ": regs - 5} {
		if f := made(t, read(t, "func f(p) { "+locals(n)+ends)).Funs[0]; f.Regs != regs {
			t.Errorf("local ones, and %s: %d registers", ends, f.Regs)
		}
		refused(t, "local ones, and "+ends, read(t, "func f(p) { "+locals(n+1)+ends), api.ErrTooLarge)
		refused(t, "two parameters, local ones, and "+ends, read(t, "func f(p, q) { "+locals(n)+ends), api.ErrTooLarge)
	}
}

// Limits: each Fun has registers and instructions of its own, in a program of as many declarations as there may be.
func TestLargest(t *testing.T) {
	l := many(t, "func f(p) { @print p; return p; }", api.MaxIns-1)
	for i := len(l); i < api.MaxDecls; i++ {
		d := l[0]
		d.Name = "f" + strconv.Itoa(i)
		l = append(l, d)
	}
	p := made(t, l)
	if len(p.Funs) != api.MaxDecls {
		t.Fatal(len(p.Funs), "Funs")
	}
	for _, f := range p.Funs {
		if len(f.Code) != api.MaxIns || f.Regs != 1 {
			t.Fatal(len(f.Code), "instructions", f.Regs, "registers")
		}
	}
}

// Limits: expressions and statements as deep as they may be, and one more.
func TestDeep(t *testing.T) {
	for _, x := range []struct{ begin, middle, end string }{
		{"print ", "- ", ";"},
		{"var v = ", "! ", ";"},
		{"", "if true { ", ""},
		{"", "while true { ", ""},
		{"", "with k { ", ""},
	} {
		leaf, closing := "1", ""
		switch {
		case x.begin == "":
			leaf, closing = "print 1;", "} "
		case x.middle == "! ":
			leaf = "true"
		}
		deep := func(n int) []api.Decl {
			inner := strings.Repeat(x.middle, n) + leaf + strings.Repeat(closing, n)
			return read(t, "lock k; thread t { "+x.begin+inner+x.end+" }")
		}
		n := api.MaxNest - 2
		l := deep(n)
		if tree.Depth(l) != api.MaxNest {
			t.Fatal(x, tree.Depth(l))
		}
		p := made(t, l)
		forward(t, p.Funs[0])
		if len(p.Funs[0].Code) < n {
			t.Error(x, p)
		}
		l[1].Body = []api.Stmt{{Kind: api.If, E: []api.Expr{{Kind: api.Bool}}, Body: l[1].Body}}
		refused(t, "deeper", l, api.ErrForm)
	}
}

// Limits: a tree whose parts share their lists is much larger than what it is stored in.
func TestShared(t *testing.T) {
	sum := func(deep int) api.Expr {
		e := api.Expr{Kind: api.Int, N: 1}
		for range deep {
			e = api.Expr{Kind: api.Add, Args: []api.Expr{e, e}}
		}
		return e
	}
	refused(t, "expressions", []api.Decl{{Kind: api.Thread, Name: "t", Body: []api.Stmt{{Kind: api.Print, E: []api.Expr{sum(20)}}}}}, api.ErrTooLarge)
	within, truth := []api.Stmt{{Kind: api.Print, E: []api.Expr{sum(10)}}}, []api.Expr{{Kind: api.Bool, N: 1}}
	for range 4 {
		within = []api.Stmt{
			{Kind: api.If, E: truth, Body: within, Else: within},
			{Kind: api.While, E: truth, Body: within},
			{Kind: api.With, Name: "k", Body: within},
		}
		l := []api.Decl{{Kind: api.Lock, Name: "k"}, {Kind: api.Func, Name: "f", Body: within}, {Kind: api.Thread, Name: "t"}}
		refused(t, "statements", l, api.ErrTooLarge)
	}
}

// roomy is a program with something else in the room behind each end.
func roomy(l []api.Decl) []api.Decl {
	var stmts func(l []api.Stmt) []api.Stmt
	var exprs func(l []api.Expr) []api.Expr
	exprs = func(l []api.Expr) []api.Expr {
		out := append(slices.Clone(l), api.Expr{Kind: api.Int, N: 1}, api.Expr{})
		for i, e := range l {
			out[i].Args = exprs(e.Args)
		}
		return out[:len(l)]
	}
	stmts = func(l []api.Stmt) []api.Stmt {
		out := append(slices.Clone(l), api.Stmt{Kind: api.Return, E: []api.Expr{{Kind: api.Int}}}, api.Stmt{})
		for i, x := range l {
			out[i].E, out[i].Body, out[i].Else = exprs(x.E), stmts(x.Body), stmts(x.Else)
		}
		return out[:len(l)]
	}
	out := append(slices.Clone(l), api.Decl{Kind: api.Thread, Name: "beyond"}, api.Decl{})
	for i, d := range l {
		out[i].Params, out[i].Body = append(slices.Clone(d.Params), "beyond", "if")[:len(d.Params)], stmts(d.Body)
	}
	return out[:len(l)]
}

// beyond writes into a list and the room behind its end, from a place on.
func beyond[T any](l []T, from int, x T) {
	for i := range l[from:cap(l)] {
		l[:cap(l)][from+i] = x
	}
}

// spoil writes into the room behind all ends of a program; if all is yes into all lists, too.
func spoil(p api.Prog, all bool) {
	from := func(n int) int {
		if all {
			return 0
		}
		return n
	}
	for _, f := range p.Funs {
		for _, i := range f.Code {
			beyond(i.Args, from(len(i.Args)), -7)
		}
		beyond(f.Code, from(len(f.Code)), api.Ins{Op: 99, Args: []int{1}})
	}
	beyond(p.Funs, from(len(p.Funs)), api.Fun{Name: "?"})
	beyond(p.Mems, from(len(p.Mems)), api.Mem{Name: "?"})
	beyond(p.Locks, from(len(p.Locks)), "?")
}

// R2, R3: what is handed in is not changed, not read behind its end, nor kept; answers are new each time, and the same;
// no two lists of one share any.
func TestApart(t *testing.T) {
	m := &maker{seed: 6}
	for range 300 {
		l, want := m.program()
		before := fmt.Sprintf("%+v", l)
		expect(t, "with room behind the ends", made(t, roomy(l)), want)
		p := made(t, l)
		spoil(p, false)
		expect(t, "written behind the ends", p, want)
		spoil(p, true)
		expect(t, "again", made(t, l), want)
		if fmt.Sprintf("%+v", l) != before {
			t.Fatal("changed:", l)
		}
	}
}

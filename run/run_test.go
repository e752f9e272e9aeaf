package run_test

import (
	"fmt"
	"math"
	"slices"
	"strconv"
	"testing"

	"bobbin/api"
	"bobbin/flat"
	"bobbin/parse"
	"bobbin/run"
)

// expect holds two things of one type against each other, all that is in them; an empty list may be nil.
func expect[T any](t *testing.T, what string, got, want T) {
	t.Helper()
	if g, w := fmt.Sprintf("%+v", got), fmt.Sprintf("%+v", want); g != w {
		t.Fatalf("%s: %s, not %s", what, g, w)
	}
}

// made is the program of a text.
func made(t *testing.T, s string) api.Prog {
	t.Helper()
	l, at, err := parse.Parse(s)
	if err != api.OK {
		t.Fatalf("%q can't be read: %v at %d", s, err, at)
	}
	p, err := flat.Make(l)
	if err != api.OK {
		t.Fatalf("%q can't be made: %v", s, err)
	}
	return p
}

// threads is a program of threads with these codes, a scalar global, an array of three cells, and two locks.
func threads(regs int, codes ...[]api.Ins) api.Prog {
	p := api.Prog{Mems: []api.Mem{{Name: "x", Size: 1, First: 7}, {Name: "a", Size: 3, First: -2}}, Locks: []string{"k", "l"}}
	for i, l := range codes {
		p.Funs = append(p.Funs, api.Fun{Name: "t" + strconv.Itoa(i), Thread: true, Regs: regs, Code: l})
	}
	return p
}

// play, turns, like and racing are the calls, that must not be refused.
func play(t *testing.T, p api.Prog, picks []int) run.Result {
	t.Helper()
	r, err := run.Play(p, picks)
	expect(t, "Play", err, api.OK)
	return r
}

func turns(t *testing.T, p api.Prog, fuel int) run.Result {
	t.Helper()
	r, err := run.ByTurns(p, fuel)
	expect(t, "ByTurns", err, api.OK)
	return r
}

func like(t *testing.T, p api.Prog, row []int) run.Result {
	t.Helper()
	r, err := run.Like(p, row)
	expect(t, "Like", err, api.OK)
	return r
}

func racing(t *testing.T, p api.Prog, picks []int) int {
	t.Helper()
	n, err := run.Racing(p, picks)
	expect(t, "Racing", err, api.OK)
	return n
}

// far are numbers that are none of any things' numbers.
func far() []int {
	return []int{math.MinInt, math.MinInt + 1, math.MinInt32, -1 << 32, -256, -16, -2, -1, 1 << 16, math.MaxInt32, 1 << 32, 1<<32 + 1, math.MaxInt - 1, math.MaxInt}
}

// upTo are the numbers from 0 on, as many as that.
func upTo(n int) []int {
	out := make([]int, n)
	for i := range out {
		out[i] = i
	}
	return out
}

// P10.1: the chapter's examples.
func TestExamples(t *testing.T) {
	p := made(t, "thread t { print 1; } thread u { print 2; }")
	four := run.Result{Ending: api.Running, Out: []int64{1, 2}, Steps: 4, Row: []int{0, 1, 0, 1}}
	expect(t, "Play", play(t, p, []int{0, 1, 0, 1}), four)
	eight := run.Result{Ending: api.Done, Out: []int64{1, 2}, Steps: 8, Row: []int{0, 1, 0, 1, 0, 1, 0, 1}}
	expect(t, "ByTurns", turns(t, p, 9), eight)
	expect(t, "Like", like(t, p, four.Row), four)
	expect(t, "Racing", racing(t, p, []int{0, 1, 0, 1}), -1)
}

// P10.1: what comes of runs, each field written out: of one thread and of several, with locks, calls, loops and globals.
func TestResults(t *testing.T) {
	for _, x := range []struct {
		text        string
		picks       []int
		play, turns run.Result
	}{
		{"thread t { print 5; }", []int{0, 0},
			run.Result{Out: []int64{5}, Steps: 2, Row: []int{0, 0}},
			run.Result{Ending: api.Done, Out: []int64{5}, Steps: 4, Row: []int{0, 0, 0, 0}}},
		{"thread t { print 1 / 0; } thread u { print 3; }", []int{1, 0, 1, 0, 0, 1, 1},
			run.Result{Ending: api.Trapped, Out: []int64{3}, Steps: 5, Row: []int{1, 0, 1, 0, 0}},
			run.Result{Ending: api.Trapped, Out: []int64{3}, Steps: 5, Row: []int{0, 1, 0, 1, 0}}},
		{"lock l; thread t { with l { with l { print 1; } } }", []int{7},
			run.Result{Ending: api.Stuck, Steps: 1, Row: []int{0}},
			run.Result{Ending: api.Stuck, Steps: 1, Row: []int{0}}},
		{"lock k; lock l; thread t { with k { with l { } } } thread u { with l { with k { } } }", []int{0, 0, 0, 0, 0, 0, 1},
			run.Result{Ending: api.Running, Steps: 7, Row: []int{0, 0, 0, 0, 0, 0, 1}},
			run.Result{Ending: api.Stuck, Steps: 2, Row: []int{0, 1}}},
		{"global x = -4; array a[2]; thread t { a[1] = x + 1; x = 9; }", []int{0, 1, 2, 3, 4},
			run.Result{Cells: [][]int64{{-4}, {0, -3}}, Steps: 5, Row: []int{0, 0, 0, 0, 0}},
			run.Result{Ending: api.Done, Cells: [][]int64{{9}, {0, -3}}, Steps: 9, Row: slices.Repeat([]int{0}, 9)}},
		{"func f(a, b) { return a * 10 + b; } thread t { var v = call f(1, 2); print v; }", nil,
			run.Result{},
			run.Result{Ending: api.Done, Out: []int64{12}, Steps: 11, Row: slices.Repeat([]int{0}, 11)}},
		{"thread t { var n = 2; while 0 < n { print n; n = n - 1; } }", []int{0, 0, 0, 0, 0, 0},
			run.Result{Out: []int64{2}, Steps: 6, Row: slices.Repeat([]int{0}, 6)},
			run.Result{Ending: api.Done, Out: []int64{2, 1}, Steps: 23, Row: slices.Repeat([]int{0}, 23)}},
		{"lock l; func f() { with l { print 3; } } thread t { print 1; call f(); } thread u { call f(); }", []int{1, 1, 1, 0, 0},
			run.Result{Out: []int64{1}, Steps: 5, Row: []int{1, 1, 1, 0, 0}},
			run.Result{Ending: api.Done, Out: []int64{1, 3, 3}, Steps: 20, Row: []int{0, 1, 0, 1, 0, 1, 1, 1, 0, 1, 0, 1, 0, 1, 0, 1, 0, 0, 0, 0}}},
		{"array a[2]; thread t { a[2] = 1; } thread u { a[1] = 1; while true { } }", []int{1, 1, 1, 0, 0, 0, 0},
			run.Result{Ending: api.Trapped, Cells: [][]int64{{0, 1}}, Steps: 6, Row: []int{1, 1, 1, 0, 0, 0}},
			run.Result{Ending: api.Trapped, Cells: [][]int64{{0, 0}}, Steps: 5, Row: []int{0, 1, 0, 1, 0}}},
	} {
		p := made(t, x.text)
		expect(t, "Play of "+x.text, play(t, p, x.picks), x.play)
		expect(t, "Like of "+x.text, like(t, p, x.play.Row), x.play)
		expect(t, "ByTurns of "+x.text, turns(t, p, 100), x.turns)
		expect(t, "Like of "+x.text, like(t, p, x.turns.Row), x.turns)
		for _, r := range []run.Result{play(t, p, x.picks), turns(t, p, 100)} {
			expect(t, "Steps of "+x.text, r.Steps, len(r.Row))
		}
	}
}

// P10.1, P10.2: runs that are over before their first step: of no thread.
func TestNoThread(t *testing.T) {
	for _, x := range []struct {
		p     api.Prog
		cells [][]int64
	}{
		{api.Prog{}, nil},
		{made(t, "global x = 3; array a[2]; lock l; func f() { x = 1; print 1 / 0; }"), [][]int64{{3}, {0, 0}}},
	} {
		want := run.Result{Ending: api.Done, Cells: x.cells}
		for _, l := range [][]int{nil, {}, {0}, {0, 1, 2}, far()} {
			expect(t, "Play", play(t, x.p, l), want)
			expect(t, "Like", like(t, x.p, l), want)
			expect(t, "Racing", racing(t, x.p, l), -1)
		}
		for _, fuel := range []int{0, 1, 2, api.MaxFuel - 1, api.MaxFuel} {
			expect(t, "ByTurns", turns(t, x.p, fuel), want)
		}
	}
}

// P10.1, P10.2: no picks, no row, no fuel: what comes is the first state.
func TestNothing(t *testing.T) {
	p := made(t, "global x = -3; array a[3]; lock l; func f() { x = 2; } thread t { call f(); print 1 / 0; } thread u { with l { a[2] = 1; } }")
	want := run.Result{Ending: api.Running, Cells: [][]int64{{-3}, {0, 0, 0}}}
	for _, l := range [][]int{nil, {}, []int{1, 1, 1}[:0]} {
		expect(t, "Play", play(t, p, l), want)
		expect(t, "Like", like(t, p, l), want)
		expect(t, "Racing", racing(t, p, l), -1)
	}
	expect(t, "ByTurns", turns(t, p, 0), want)
}

// P10.1: more picks, more of a row, than the run takes: it stays as it ended.
func TestMorePicks(t *testing.T) {
	for _, x := range []struct {
		text   string
		ending uint8
	}{
		{"thread t { print 1; } thread u { print 2; }", api.Done},
		{"global x = 8; thread t { print x; print 1 / 0; } thread u { x = 2; x = 2; x = 2; x = 2; }", api.Trapped},
		{"lock l; thread t { with l { with l { } } } thread u { print 4; print 5; }", api.Stuck},
	} {
		p := made(t, x.text)
		m := &maker{seed: 3}
		var picks, row []int
		for range 60 {
			picks, row = append(picks, m.next(2)), append(row, m.next(2))
		}
		r, l := play(t, p, picks), like(t, p, row)
		expect(t, "Ending of "+x.text, []uint8{r.Ending, l.Ending}, []uint8{x.ending, x.ending})
		expect(t, "Play of "+x.text, r, trailed(t, p).play(t, picks).all())
		expect(t, "Like of "+x.text, l, trailed(t, p).like(t, row).all())
		expect(t, "Play of what it took", play(t, p, picks[:r.Steps]), r)
		for _, more := range []int{1, 2, 1000} {
			expect(t, "Play of more", play(t, p, append(slices.Clone(picks), far()[more%10], more)), r)
			expect(t, "Like of more", like(t, p, append(slices.Clone(row), upTo(more)...)), l)
		}
	}
	many := make([]int, 300000)
	expect(t, "Play of many", play(t, made(t, "thread t { while true { } }"), many).Steps, len(many))
	expect(t, "Like of many", like(t, made(t, "thread t { print 1; }"), many).Steps, 4)
}

// P10.1, P10.4: fuel: none, as much as the run takes, one less and one more, all that there may be.
func TestFuel(t *testing.T) {
	for _, x := range []struct {
		text  string
		steps int
		want  uint8
	}{
		{"thread t { print 1; }", 4, api.Done},
		{"thread t { print 1; } thread u { print 2; }", 8, api.Done},
		{"thread t { print 1 / 0; } thread u { while true { } }", 5, api.Trapped},
		{"lock l; thread t { with l { with l { } } } thread u { }", 3, api.Stuck},
	} {
		p := made(t, x.text)
		whole := turns(t, p, x.steps)
		expect(t, "Ending and Steps of "+x.text, []int{int(whole.Ending), whole.Steps}, []int{int(x.want), x.steps})
		for fuel := range x.steps {
			r := turns(t, p, fuel)
			expect(t, "Ending and Steps of "+x.text, []int{int(r.Ending), r.Steps}, []int{int(api.Running), fuel})
			expect(t, "Row of "+x.text, r.Row, whole.Row[:fuel])
		}
		for _, fuel := range []int{x.steps + 1, x.steps + 2, 1000, api.MaxFuel - 1, api.MaxFuel} {
			expect(t, "ByTurns of "+x.text, turns(t, p, fuel), whole)
		}
	}
	// One counts down from n in 3 * n + 4 steps: as many as there may be, and, with a thread of one step beside it, one more.
	down := []api.Ins{constant(0, 33332), constant(1, 1), branch(0, 5), binary(0, api.Sub, 0, 1), jump(2), back(0)}
	r := turns(t, threads(2, down), api.MaxFuel)
	expect(t, "Ending and Steps", []int{int(r.Ending), r.Steps}, []int{int(api.Done), api.MaxFuel})
	expect(t, "one less", turns(t, threads(2, down), api.MaxFuel-1).Ending, api.Running)
	one := []api.Ins{back(0)}
	r = turns(t, threads(2, down, one), api.MaxFuel)
	expect(t, "Ending and Steps", []int{int(r.Ending), r.Steps}, []int{int(api.Running), api.MaxFuel})
	p := made(t, "global x = 0; thread t { while true { x = x + 1; } } thread u { while true { } }")
	for _, fuel := range []int{api.MaxFuel - 1, api.MaxFuel} {
		r := turns(t, p, fuel)
		expect(t, "Ending, Steps and how many were whose", []int{int(r.Ending), r.Steps, len(r.Row)}, []int{int(api.Running), fuel, fuel})
		for i, thread := range r.Row {
			if thread != i%2 {
				t.Fatalf("the step %d is of %d", i, thread)
			}
		}
	}
}

// P10.1: fuel that may not be, told behind the program that may not be.
func TestFuelRefused(t *testing.T) {
	good, bad := made(t, "global x = 1; thread t { print x; }"), threads(0, []api.Ins{back(0)})
	for _, fuel := range []int{-1, -2, math.MinInt, math.MinInt32, api.MaxFuel + 1, api.MaxFuel + 2, 1 << 32, 1<<32 + 1, math.MaxInt} {
		for _, x := range []struct {
			p    api.Prog
			want api.Errno
		}{{good, api.ErrArg}, {api.Prog{}, api.ErrArg}, {bad, api.ErrForm}} {
			r, err := run.ByTurns(x.p, fuel)
			expect(t, "ByTurns("+strconv.Itoa(fuel)+")", err, x.want)
			expect(t, "what comes of it", r, run.Result{})
		}
	}
}

// P10.1, P10.2: programs that may not be, in each call, whatever stands beside them.
func TestForm(t *testing.T) {
	f := api.Fun{Name: "f", Regs: 1, Code: []api.Ins{back(0)}}
	good := func() api.Prog {
		p := threads(2, []api.Ins{constant(0, 1), call(1, 1), show(0), back(1)})
		g := f
		g.Code = slices.Clone(f.Code)
		p.Funs = append(p.Funs, g)
		return p
	}
	expect(t, "as it is", turns(t, good(), 9).Out, []int64{1})
	for what, spoil := range map[string]func(p *api.Prog){
		"an operation that is none":   func(p *api.Prog) { p.Funs[0].Code[0].Op = 0 },
		"one behind the last one":     func(p *api.Prog) { p.Funs[0].Code[0].Op = api.OReturn + 1 },
		"a register that is none":     func(p *api.Prog) { p.Funs[0].Code[0].R = 2 },
		"one below 0":                 func(p *api.Prog) { p.Funs[0].Code[3].A = -1 },
		"an Arg more":                 func(p *api.Prog) { p.Funs[0].Code[1].Args = []int{0} },
		"a call of a Thread":          func(p *api.Prog) { p.Funs[0].Code[1].N = 0 },
		"a global that is none":       func(p *api.Prog) { p.Funs[0].Code[0] = load(0, 2, -1) },
		"a lock that is none":         func(p *api.Prog) { p.Funs[0].Code[0] = acquire(2) },
		"a jump to behind the end":    func(p *api.Prog) { p.Funs[0].Code[0] = jump(4) },
		"no instructions":             func(p *api.Prog) { p.Funs[1].Code = nil },
		"nothing at the end":          func(p *api.Prog) { p.Funs[0].Code = p.Funs[0].Code[:3] },
		"Regs below 0":                func(p *api.Prog) { p.Funs[1].Regs = -1 },
		"a Thread with Params":        func(p *api.Prog) { p.Funs[0].Params = 1 },
		"a Size of 0":                 func(p *api.Prog) { p.Mems[1].Size = 0 },
		"a Size that is too great":    func(p *api.Prog) { p.Mems[1].Size = api.MaxSize + 1 },
		"a name that is none":         func(p *api.Prog) { p.Locks[0] = "if" },
		"two names alike":             func(p *api.Prog) { p.Locks[0] = "x" },
		"a Fun that nobody calls":     func(p *api.Prog) { p.Funs[1].Code = append(p.Funs[1].Code, show(1)) },
		"more threads than may be":    func(p *api.Prog) { p.Funs = moreThreads(p.Funs) },
		"no thread, and what may not": func(p *api.Prog) { p.Funs[0].Thread, p.Funs[1].Regs = false, 0 },
	} {
		p := good()
		spoil(&p)
		for _, l := range [][]int{nil, {0}, {0, 0, 0, 0, 0}, far()} {
			r, err := run.Play(p, l)
			expect(t, "Play of "+what, err, api.ErrForm)
			expect(t, "what comes of it", r, run.Result{})
			r, err = run.Like(p, l)
			expect(t, "Like of "+what, err, api.ErrForm)
			expect(t, "what comes of it", r, run.Result{})
			n, err := run.Racing(p, l)
			expect(t, "Racing of "+what, err, api.ErrForm)
			expect(t, "the state", n, 0)
		}
		for _, fuel := range []int{0, 1, api.MaxFuel, -1, api.MaxFuel + 1, math.MinInt, math.MaxInt} {
			r, err := run.ByTurns(p, fuel)
			expect(t, "ByTurns of "+what, err, api.ErrForm)
			expect(t, "what comes of it", r, run.Result{})
		}
	}
}

// moreThreads are Funs with one thread more than there may be.
func moreThreads(l []api.Fun) []api.Fun {
	for i := range api.MaxThreads {
		l = append(l, api.Fun{Name: "more" + strconv.Itoa(i), Thread: true, Regs: 1, Code: []api.Ins{back(0)}})
	}
	return l
}

// P10.1: as many threads as there may be, each with a step by its number.
func TestManyThreads(t *testing.T) {
	p := threads(1, slices.Repeat([][]api.Ins{{show(0), back(0)}}, api.MaxThreads)...)
	twice := append(upTo(api.MaxThreads), upTo(api.MaxThreads)...)
	want := run.Result{Ending: api.Done, Out: make([]int64, api.MaxThreads), Cells: [][]int64{{7}, {-2, -2, -2}}, Steps: len(twice), Row: twice}
	expect(t, "ByTurns", turns(t, p, len(twice)), want)
	expect(t, "Like", like(t, p, twice), want)
	expect(t, "Play", play(t, p, append(upTo(api.MaxThreads), make([]int, api.MaxThreads)...)), want)
}

// P10.1: numbers of a row that can't go on, between ones that can: who waits, who is gone, who is not there.
func TestRowNumbers(t *testing.T) {
	lock := []api.Ins{acquire(0), show(0), release(0), back(0)}
	p := threads(1, lock, lock, []api.Ins{constant(0, 4), store(0, -1, 0), back(0)})
	row := []int{1, 0, 2, 0, 1, 0, 2, 1, 0, 0, 1, 2, 1, 1, 2, 0, 2, 0}
	can := []int{1, 2, 1, 2, 1, 0, 0, 1, 2, 0, 0}
	want := run.Result{Ending: api.Done, Out: []int64{0, 0}, Cells: [][]int64{{4}, {-2, -2, -2}}, Steps: len(can), Row: can}
	expect(t, "Like", like(t, p, row), want)
	expect(t, "Like of those who can", like(t, p, can), want)
	var wide []int
	for i, thread := range row {
		wide = append(append(wide, far()[i%len(far())], 3), thread, far()[(i*5+1)%len(far())])
	}
	expect(t, "Like, with numbers of none between", like(t, p, append(far(), wide...)), want)
	expect(t, "Like of none", like(t, p, append(far(), 3, 4, 15, 16)), run.Result{Cells: [][]int64{{7}, {-2, -2, -2}}})
	for _, n := range append(far(), 3, api.MaxThreads) {
		expect(t, "Like of one that is none", like(t, p, []int{n, 2, n}), run.Result{Cells: [][]int64{{7}, {-2, -2, -2}}, Steps: 1, Row: []int{2}})
	}
	// The threads are numbered without the Funs that are none.
	q := made(t, "func f() { } thread t { print 1; } func g() { } thread u { print 2; }")
	expect(t, "Like", like(t, q, []int{3, 1, 2, 1}), run.Result{Out: []int64{2}, Steps: 2, Row: []int{1, 1}})
}

// P10.1: picks, at the edges of what there may be: 2^64 - 1 is left 0 by 3 and by 5, 2^63 is left 2 by 3, 3 by 5.
func TestPickNumbers(t *testing.T) {
	for _, x := range []struct{ count, pick, want int }{
		{1, math.MinInt, 0}, {1, -1, 0}, {1, math.MaxInt, 0}, {1, 5, 0},
		{2, math.MinInt, 0}, {2, -1, 1}, {2, -2, 0}, {2, math.MaxInt, 1}, {2, 2, 0}, {2, 3, 1},
		{3, math.MinInt, 2}, {3, -1, 0}, {3, -2, 2}, {3, math.MaxInt, 1}, {3, 2, 2}, {3, 3, 0},
		{5, math.MinInt, 3}, {5, -1, 0}, {5, -2, 4}, {5, math.MaxInt, 2}, {5, 4, 4}, {5, 5, 0},
		{16, math.MinInt, 0}, {16, -1, 15}, {16, math.MaxInt, 15}, {16, 16, 0}, {16, 31, 15},
	} {
		p := threads(1, slices.Repeat([][]api.Ins{{back(0)}}, x.count)...)
		r := play(t, p, []int{x.pick})
		expect(t, "Play("+strconv.Itoa(x.pick)+") of "+strconv.Itoa(x.count), r.Row, []int{x.want})
	}
	// Who can't go on is not counted.
	wait := []api.Ins{acquire(0), release(0), back(0)}
	p := threads(1, wait, wait, []api.Ins{constant(0, 1), back(0)})
	expect(t, "Play", play(t, p, []int{1, 1, 0, 1, 2, 1, 0, 0}).Row, []int{1, 2, 1, 1, 0, 2, 0, 0})
}

// P10.2: the first state in which two threads race.
func TestRacing(t *testing.T) {
	write, read := store(0, -1, 0), load(0, 0, -1)
	late := func(n int, i api.Ins) []api.Ins {
		return append(slices.Repeat([]api.Ins{constant(0, 1)}, n), i, back(0))
	}
	for _, x := range []struct {
		what  string
		p     api.Prog
		picks []int
		want  int
	}{
		{"in state 0, no picks", threads(1, late(0, write), late(0, read)), nil, 0},
		{"in state 0, some picks", threads(1, late(0, write), late(0, write)), []int{1, 0, 1}, 0},
		{"reads alone", threads(1, late(0, read), late(0, read)), []int{0, 1, 0, 1}, -1},
		{"in the last state", threads(1, late(1, write), late(0, read)), []int{0}, 1},
		{"one pick less", threads(1, late(1, write), late(0, read)), nil, -1},
		{"the other one goes first", threads(1, late(1, write), late(0, read)), []int{1, 0, 0}, -1},
		{"in the middle", threads(1, late(1, write), late(2, read)), []int{1, 0, 1, 0, 1}, 3},
		{"not in state 0, as one stands behind it", threads(1, late(0, write), late(1, read)), []int{1, 1, 0}, 1},
		{"twice", threads(1, []api.Ins{constant(0, 1), write, write, back(0)}, []api.Ins{constant(0, 1), write, write, back(0)}), []int{0, 0, 1, 0, 0, 1}, 3},
		{"one thread alone", threads(1, []api.Ins{write, read, write, back(0)}), []int{0, 0, 0}, -1},
		{"two cells", threads(1, []api.Ins{constant(0, 1), store(1, 0, 0), back(0)}, []api.Ins{constant(0, 2), store(1, 0, 0), back(0)}), []int{0, 1}, -1},
		{"one cell", threads(1, []api.Ins{constant(0, 2), store(1, 0, 0), back(0)}, []api.Ins{constant(0, 2), store(1, 0, 0), back(0)}), []int{0, 1}, 2},
		{"no such place", threads(1, []api.Ins{constant(0, 3), store(1, 0, 0), back(0)}, []api.Ins{constant(0, 3), store(1, 0, 0), back(0)}), []int{0, 1, 0}, -1},
		{"behind a pick too many", threads(1, late(0, read), late(0, read)), []int{0, 0, 0, 0, 0, 0, 0}, -1},
		{"trapped ahead of it", threads(1, late(0, release(0)), late(0, write), late(1, read)), []int{0, 1, 1}, -1},
		{"as chapter 9 has it", made(t, "global x = 1; thread t { x = x + 2; print x; } thread u { x = 5; }"), []int{1}, 1},
		{"under one lock", made(t, "global x = 1; lock l; thread t { with l { x = 2; } } thread u { with l { print x; } }"), []int{0, 1, 0, 1, 0, 0, 1, 0, 1, 0, 1, 0, 1}, -1},
	} {
		expect(t, "Racing "+x.what, racing(t, x.p, x.picks), x.want)
		if x.want >= 0 && x.want < len(x.picks) {
			expect(t, "Racing up to there "+x.what, racing(t, x.p, x.picks[:x.want]), x.want)
		}
	}
}

// P10.1, P10.2: functions that call themselves are run like others.
func TestLoop(t *testing.T) {
	p := threads(1, []api.Ins{call(0, 1), back(0)})
	p.Funs = append(p.Funs, api.Fun{Name: "f", Regs: 2, Code: []api.Ins{constant(0, 6), show(0), call(1, 1), back(0)}})
	r := turns(t, p, 3000)
	expect(t, "Ending, Steps, how many were printed", []int{int(r.Ending), r.Steps, len(r.Out)}, []int{int(api.Running), 3000, 1000})
	expect(t, "Like", like(t, p, r.Row), r)
}

// P10.1, P10.2: what is handed in is not changed, not kept, and not read behind its end; what is handed out is new.
func TestOwn(t *testing.T) {
	text := "global x = 1; array a[2]; func f(p) { a[1] = p; } thread t { call f(x); print x; } thread u { x = 2; print a[1]; }"
	p, same := made(t, text), made(t, text)
	all := []int{1, 0, 1, 0, 1, 0, 0, 1, 0, 1, 7, 7}
	list := all[:10]
	ask := func() []run.Result {
		return []run.Result{play(t, p, list), turns(t, p, 9), like(t, p, list)}
	}
	first, racedAt := ask(), racing(t, p, list)
	expect(t, "the program", p, same)
	expect(t, "the list, with what is behind its end", all, []int{1, 0, 1, 0, 1, 0, 0, 1, 0, 1, 7, 7})
	want := fmt.Sprintf("%+v", first)
	for _, r := range first {
		spoil(r)
	}
	again := ask()
	expect(t, "asked again", fmt.Sprintf("%+v", again), want)
	expect(t, "asked again", racing(t, p, list), racedAt)
	// The program and the lists become others: what was answered stays.
	for at := range p.Funs[0].Code {
		p.Funs[0].Code[at] = api.Ins{}
	}
	clear(p.Funs)
	clear(p.Mems)
	clear(all)
	expect(t, "what was answered", fmt.Sprintf("%+v", again), want)
}

// spoil writes into all lists of what came of a run, and into the room behind their ends.
func spoil(r run.Result) {
	for _, l := range append(slices.Clone(r.Cells), r.Out) {
		for i := range l[:cap(l)] {
			l[:cap(l)][i] = 99
		}
	}
	for i := range r.Row[:cap(r.Row)] {
		r.Row[:cap(r.Row)][i] = 99
	}
	clear(r.Cells[:cap(r.Cells)])
}

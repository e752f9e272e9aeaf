package sound_test

import (
	"slices"
	"testing"

	"bobbin/api"
	"bobbin/flat"
	"bobbin/flow"
	"bobbin/parse"
	"bobbin/sound"
	"bobbin/ssa"
)

// answers holds what the calls answer of a graph against the chapter said in other words, and tells what that is.
func answers(t *testing.T, g api.Graph) api.Errno {
	t.Helper()
	set, err := setOf(g)
	check := checkOf(g)
	got, refusal := sound.Set(g)
	if !slices.Equal(got, set) || refusal != err {
		t.Fatalf("Set: %v, %v, not %v, %v, of %+v", got, refusal, set, err, g)
	}
	if is, may := sound.Check(g), sound.May(g); is != check || may != (check == api.OK) {
		t.Fatalf("Check: %v, not %v; May: %v, of %+v", is, check, may, g)
	}
	return check
}

// onWays asks what P15.3 says, and no less: where each register is set at one spot at most, what is read is there just if
// it was set on all ways of a block more than there are. (The shortest way to a block, round one that is not above it, and
// on to a Phi, is as long.)
func onWays(t *testing.T, g api.Graph, most int) {
	t.Helper()
	err := sound.Check(g)
	if err == api.OK && !onAllWays(g, most) {
		t.Fatalf("on some way it is not so: %+v", g)
	}
	if err == api.ErrNone && onAllWays(g, len(g.Blocks)+1) {
		t.Fatalf("on all ways it is so: %+v", g)
	}
}

// P15.1, P15.3: all graphs of up to two blocks, and each 29th of three, of two registers beside a parameter by which they
// branch, with what they set, read and choose in all rows.
func TestAllSmall(t *testing.T) {
	codes := [][]api.Ins{nil, {constant(1)}, {show(1)}, {show(2)}, {unary(1, 1)}, {constant(1), show(1)}, {show(1), constant(1)}, {move(2, 1)}}
	const choices = 6
	seen := map[api.Errno]int{}
	for n := 1; n <= 3; n++ {
		ends := 1 + (n - 1) + (n-1)*(n-1)
		kinds := len(codes) * ends * choices
		all, step := len(codes)*ends, 1
		for range n - 1 {
			all *= kinds
		}
		if n == 3 {
			step = 29
		}
		for number := 0; number < all; number += step {
			l := make([]api.Block, n)
			chosen := make([]int, n)
			left := number
			for b := range l {
				l[b] = ended(codes[left%len(codes)], left/len(codes)%ends, n-1)
				left /= len(codes) * ends
				if b < n-1 {
					chosen[b+1] = left % choices
					left /= choices
				}
			}
			g := graph(1, 3, l...)
			for b := range g.Blocks {
				g.Blocks[b].Phis = someChoices(chosen[b], len(g.Blocks[b].From))
			}
			seen[answers(t, g)]++
			onWays(t, g, 6)
		}
	}
	for _, err := range []api.Errno{api.OK, api.ErrForm, api.ErrTwice, api.ErrNone} {
		if seen[err] < 1000 {
			t.Error("what was seen:", seen)
		}
	}
}

// ended is a block that ends in a way of a number: it goes back, to one of the others, or to two of them.
func ended(l []api.Ins, way, others int) api.Block {
	l = slices.Clone(l)
	switch way--; {
	case way < 0:
		return block(nil, append(l, back(0))...)
	case way < others:
		return block(list(1+way), append(l, jump())...)
	}
	way -= others
	return block(list(1+way/others, 1+way%others), append(l, branch(0))...)
}

// someChoices are Phis of a number, of a block with as many From.
func someChoices(number, from int) []api.Phi {
	args := func(first, others int) []int {
		l := slices.Repeat(list(others), from)
		if from > 0 {
			l[0] = first
		}
		return l
	}
	switch number {
	case 1:
		return []api.Phi{phi(1, args(0, 0)...)}
	case 2:
		return []api.Phi{phi(2, args(1, 1)...)}
	case 3:
		return []api.Phi{phi(2, args(0, 1)...)}
	case 4:
		return []api.Phi{phi(1, args(0, 2)...), phi(2, args(0, 1)...)}
	case 5:
		return []api.Phi{phi(2, args(1, 2)...)}
	}
	return nil
}

// P15.1, P15.3: many made graphs, in which each register is set once, or was, till some of it was turned.
func TestAnyGraph(t *testing.T) {
	m := &maker{seed: 1}
	seen := map[api.Errno]int{}
	for range 20000 {
		g := m.once(pick(m, 3, 5, 9))
		for range m.next(7) {
			g = m.turned(g)
		}
		seen[answers(t, g)]++
		if len(g.Blocks) <= 5 {
			onWays(t, g, 7)
		}
	}
	for _, err := range []api.Errno{api.OK, api.ErrForm, api.ErrTwice, api.ErrNone} {
		if seen[err] < 100 {
			t.Error("what was seen:", seen)
		}
	}
}

// P15.1: graphs of any instructions, any Phis, and blocks that are not reached, and of more blocks.
func TestAnyLoose(t *testing.T) {
	m := &maker{seed: 2}
	for range 5000 {
		answers(t, m.withChoices(m.loose(8)))
	}
	for range 100 {
		g := m.once(60)
		answers(t, g)
		for range 4 {
			g = m.turned(g)
			answers(t, g)
		}
	}
}

// P15.3: one long way at a time, through graphs of more blocks.
func TestLongWays(t *testing.T) {
	m := &maker{seed: 3}
	for range 2000 {
		g := m.once(20)
		way := list(0)
		for b := 0; len(way) < 60 && len(g.Blocks[b].To) > 0; {
			b = pick(m, g.Blocks[b].To...)
			way = append(way, b)
		}
		if sound.Check(g) != api.OK || !walked(g, way).ok {
			t.Fatalf("on the way %v it is not so: %+v", way, g)
		}
	}
}

// P15.2: what ssa.Of makes of graphs; and what they were ahead of that, which is it seldom.
func TestMade(t *testing.T) {
	m := &maker{seed: 4}
	before := map[api.Errno]int{}
	phis := 0
	for range 10000 {
		g := m.known(pick(m, 4, 9, 30))
		before[answers(t, g)]++
		got, err := ssa.Of(g)
		if err != api.OK {
			t.Fatalf("%v of %+v", err, g)
		}
		made(t, got)
		for _, x := range got.Blocks {
			phis += len(x.Phis)
		}
	}
	if phis < 5000 || before[api.OK] < 100 || before[api.ErrTwice] < 5000 {
		t.Error("how many Phis, and what graphs were:", phis, before)
	}
}

// made asks of a graph that ssa made that each register is set once: from Params on at a spot each.
func made(t *testing.T, g api.Graph) {
	t.Helper()
	set, err := sound.Set(g)
	if err != api.OK || sound.Check(g) != api.OK || !sound.May(g) {
		t.Fatalf("%v, %v of %+v", err, sound.Check(g), g)
	}
	for r, s := range set {
		if l := spotsOf(g, r); len(l) != 1 || l[0] != s {
			t.Fatalf("%d: %v, not %v, of %+v", r, s, l, g)
		}
	}
}

// P15.2: what ssa.Of makes of all graphs of up to three blocks of one register beside a parameter.
func TestMadeSmall(t *testing.T) {
	codes := [][]api.Ins{nil, {constant(1)}, {show(1)}, {unary(1, 1)}, {constant(1), constant(1)}}
	once := 0
	for n := 1; n <= 3; n++ {
		ends := 1 + (n - 1) + (n-1)*(n-1)
		kinds, all := len(codes)*ends, 1
		for range n {
			all *= kinds
		}
		for number := range all {
			l := make([]api.Block, n)
			for b, left := 0, number; b < n; b++ {
				l[b] = ended(codes[left%len(codes)], left/len(codes)%ends, n-1)
				left /= kinds
			}
			if got, err := ssa.Of(graph(1, 2, l...)); err == api.OK {
				once++
				made(t, got)
			}
		}
	}
	if once < 5000 {
		t.Error("how many were made:", once)
	}
}

// formOf is the program of blocks of a text.
func formOf(t *testing.T, s string) api.Form {
	t.Helper()
	l, at, err := parse.Parse(s)
	if err != api.OK {
		t.Fatalf("%.300q can't be read: %v at %d", s, err, at)
	}
	p, err := flat.Make(l)
	if err != api.OK {
		t.Fatalf("%.300q can't be made: %v", s, err)
	}
	f, err := flow.Of(p)
	if err != api.OK {
		t.Fatalf("%.300q can't be cut: %v", s, err)
	}
	return f
}

// P15.2: what ssa.All makes of programs of texts: of branches, loops, loops in loops, calls and locks.
func TestMadeTexts(t *testing.T) {
	m := &maker{seed: 5}
	texts := []string{
		"thread t { print 1; }",
		"global x = 1; thread t { if x < 1 { x = 2; } print x; }",
		"thread t { var n = 9; while 0 < n { n = n - 1; } print n; }",
		"thread t { var n = 9; while 0 < n { var k = n; while 0 < k { k = k - 1; print k; } n = n - 1; } }",
		"thread t { var n = 9; var v = 1; var p = 2; while 0 < n { var q = v; v = p; p = q; n = n - 1; } print v; }",
		"func f(a) { var v = a; if a < 1 { v = 2; } else { v = 3; } return v; } thread t { var w = call f(1); print w; } thread u { while true { } }",
		"lock l; lock m; global x = 1; thread t { with l { with m { x = x + 1; } } } thread u { with m { if x < 2 { x = 3; } } }",
	}
	for range 400 {
		texts = append(texts, m.text())
	}
	once := 0
	for _, text := range texts {
		f := formOf(t, text)
		all, err := ssa.All(f)
		if err != api.OK || !sound.MayForm(all) {
			t.Fatalf("%v, %v of %q", err, sound.MayForm(all), text)
		}
		want := true
		for fun, g := range f.Funs {
			made(t, all.Funs[fun])
			want = want && answers(t, g) == api.OK
		}
		expect(t, "whether it was so ahead of ssa: "+text, sound.MayForm(f), want)
		if want {
			once++
		}
	}
	if once < 2 || once > 200 {
		t.Error("how many were so ahead of ssa:", once)
	}
}

// isRead says whether somebody reads a register.
func isRead(g api.Graph, r int) bool {
	for _, x := range g.Blocks {
		for _, p := range x.Phis {
			if slices.Contains(p.Args, r) {
				return true
			}
		}
		for _, i := range x.Code {
			if slices.Contains(readsOf(i), r) {
				return true
			}
		}
	}
	return false
}

// P15.4: with instructions that set what nobody reads taken away, one after the other, till there is none.
func TestLess(t *testing.T) {
	m := &maker{seed: 6}
	seen := map[string]int{}
	for range 3000 {
		less(t, m.once(8), seen)
	}
	less(t, graph(0, 1, block(list(1)), block(list(1), constant(0))), seen)
	if seen["less"] < 5000 || seen["may not be"] < 1 {
		t.Error("what was seen:", seen)
	}
}

// less takes away of a graph what sets a register that nobody reads, and asks that it is so still.
func less(t *testing.T, g api.Graph, seen map[string]int) {
	t.Helper()
	if sound.Check(g) != api.OK {
		t.Fatalf("it is not so: %+v", g)
	}
	for b := range g.Blocks {
		for at := len(g.Blocks[b].Code) - 1; at >= 0; at-- {
			if i := g.Blocks[b].Code[at]; !setsIt(i, i.R) || isRead(g, i.R) {
				continue
			}
			with := g
			g = clone(g)
			g.Blocks[b].Code = slices.Delete(g.Blocks[b].Code, at, at+1)
			if !flow.May(g) {
				seen["may not be"]++
				expect(t, "what may not be then", answers(t, g), api.ErrForm)
				g = with
				continue
			}
			seen["less"]++
			expect(t, "with an instruction less", answers(t, g), api.OK)
		}
	}
}

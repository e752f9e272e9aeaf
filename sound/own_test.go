package sound_test

import (
	"math"
	"slices"
	"sync"
	"testing"

	"bobbin/api"
	"bobbin/flow"
	"bobbin/sound"
)

// roomy is a graph with something else in the room behind each end, that shares nothing with it.
func roomy(g api.Graph) api.Graph {
	g = clone(g)
	g.Blocks = append(g.Blocks, block(list(-5), constant(0)))[:len(g.Blocks)]
	for b := range g.Blocks {
		x := &g.Blocks[b]
		x.Phis = append(x.Phis, phi(-5), phi(0))[:len(x.Phis)]
		x.Code = append(x.Code, constant(0), show(-5))[:len(x.Code)]
		x.From, x.To = append(x.From, -5)[:len(x.From)], append(x.To, -5, 0)[:len(x.To)]
		for n := range x.Phis {
			x.Phis[n].Args = append(x.Phis[n].Args, -5)[:len(x.Phis[n].Args)]
		}
		for at := range x.Code {
			x.Code[at].Args = append(x.Code[at].Args, -5, 9)[:len(x.Code[at].Args)]
		}
	}
	return g
}

// whole is a graph with the room behind each end.
func whole(g api.Graph) api.Graph {
	g.Blocks = slices.Clone(g.Blocks[:cap(g.Blocks)])
	for b := range g.Blocks {
		x := &g.Blocks[b]
		x.From, x.To = x.From[:cap(x.From)], x.To[:cap(x.To)]
		x.Phis, x.Code = slices.Clone(x.Phis[:cap(x.Phis)]), slices.Clone(x.Code[:cap(x.Code)])
		for n := range x.Phis {
			x.Phis[n].Args = x.Phis[n].Args[:cap(x.Phis[n].Args)]
		}
		for at := range x.Code {
			x.Code[at].Args = x.Code[at].Args[:cap(x.Code[at].Args)]
		}
	}
	return g
}

// wipe writes into all that a graph has, and the room behind each end.
func wipe(g api.Graph) {
	wipeList := func(l []int) {
		for at := range l[:cap(l)] {
			l[:cap(l)][at] = -88
		}
	}
	for _, x := range g.Blocks {
		wipeList(x.From)
		wipeList(x.To)
		for _, p := range x.Phis {
			wipeList(p.Args)
		}
		for _, i := range x.Code {
			wipeList(i.Args)
		}
		clear(x.Phis[:cap(x.Phis)])
		clear(x.Code[:cap(x.Code)])
	}
	clear(g.Blocks[:cap(g.Blocks)])
}

// R3, P15.1: what is handed in is not changed, not kept, and not read behind its end.
func TestHandedIn(t *testing.T) {
	m := &maker{seed: 7}
	seen := map[api.Errno]int{}
	for range 1500 {
		g := m.once(8)
		for range m.next(4) {
			g = m.turned(g)
		}
		want, refusal := setOf(g)
		check := checkOf(g)
		given := roomy(g)
		before := written(whole(given))
		set, err := sound.Set(given)
		is, may := sound.Check(given), sound.May(given)
		f := program(given, graph(0, 1, block(nil, constant(0), back(0))))
		all := written(f)
		sound.MayForm(f)
		expect(t, "what was handed in", written(whole(given)), before)
		expect(t, "the program that was handed in", written(f), all)
		wipe(given)
		expect(t, "where registers are set, once it is gone", set, want)
		expect(t, "the errors", []api.Errno{err, is}, []api.Errno{refusal, check})
		expect(t, "May", may, check == api.OK)
		seen[is]++
	}
	if len(seen) < 4 {
		t.Error("what was seen:", seen)
	}
}

// R3, P15.1: of a graph that is written over behind a call, the next call tells what it is then.
func TestWrittenOver(t *testing.T) {
	g := graph(1, 3, block(list(1), constant(1)), block(nil, show(1), back(0)))
	f := program(g)
	isOnce(t, "ahead", g, 0, -1, 0, 0, -1, -1)
	expect(t, "the program ahead", sound.MayForm(f), true)
	g.Blocks[0].Code[0].R = 2
	lacks(t, "set no more", g, 0, -1, -1, -1, 0, 0)
	expect(t, "the program, of what is set no more", sound.MayForm(f), false)
	g.Blocks[0].Code[0].R = 0
	isTwice(t, "a parameter now", g)
	g.Blocks[0].To[0] = 0
	mayNot(t, "no way now", g)
	g.Blocks[0].To[0], g.Blocks[0].Code[0].R = 1, 1
	isOnce(t, "as it was", g, 0, -1, 0, 0, -1, -1)
	expect(t, "the program as it was", sound.MayForm(f), true)
}

// R3, P15.1: what Set hands out is new each time, its room too.
func TestHandedOut(t *testing.T) {
	m := &maker{seed: 8}
	for range 500 {
		g := m.once(8)
		var all [][]sound.Spot
		for range 3 {
			set, err := sound.Set(g)
			expect(t, "Set", err, api.OK)
			all = append(all, set)
		}
		for n, l := range all {
			for at := range l[:cap(l)] {
				l[:cap(l)][at] = sound.Spot{Block: n, At: at}
			}
		}
		for n, l := range all {
			for at, s := range l[:cap(l)] {
				expect(t, "a list of its own", s, sound.Spot{Block: n, At: at})
			}
		}
		expect(t, "once more", answers(t, g), api.OK)
	}
}

// R2: the same graph asked twice, in between others, and by many at a time: the same answers.
func TestTwice(t *testing.T) {
	m := &maker{seed: 9}
	var all sync.WaitGroup
	for range 400 {
		g := m.once(10)
		for range m.next(4) {
			g = m.turned(g)
		}
		set, err := sound.Set(g)
		check := sound.Check(g)
		for range 2 {
			all.Go(func() {
				other, otherErr := sound.Set(g)
				if !slices.Equal(other, set) || otherErr != err || sound.Check(g) != check || sound.May(g) != (check == api.OK) {
					t.Errorf("once more: %v, %v of %+v", other, otherErr, g)
				}
			})
		}
	}
	all.Wait()
}

// R6: an empty list may be nil or empty.
func TestEmpty(t *testing.T) {
	g := graph(0, 0, api.Block{Phis: []api.Phi{}, Code: []api.Ins{}, To: list(1)}, api.Block{Phis: []api.Phi{}, Code: []api.Ins{{Op: api.OJump, Args: []int{}}}, To: list(1)})
	g.Blocks[0].From = []int{}
	isOnce(t, "empty lists", g)
	isOnce(t, "empty lists of a block that ends all", graph(1, 1, api.Block{Phis: []api.Phi{}, To: []int{}, From: []int{}, Code: []api.Ins{{Op: api.OReturn, Args: []int{}}}}), 0, -1)
	expect(t, "a program of empty lists", sound.MayForm(api.Form{Mems: []api.Mem{}, Locks: []string{}, Funs: []api.Graph{}}), true)
	mayNot(t, "an empty list of blocks", api.Graph{Blocks: []api.Block{}})
}

// R1: whatever is handed in, each call answers.
func TestWhatever(t *testing.T) {
	m := &maker{seed: 10}
	may := map[bool]int{}
	for range 6000 {
		g := m.once(6)
		for range 1 + m.next(2) {
			m.spoil(&g)
		}
		may[flow.May(g)]++
		answers(t, g)
		sound.MayForm(api.Form{Funs: []api.Graph{g}})
	}
	if may[true] < 300 || may[false] < 1500 {
		t.Error("graphs that may be, and may not:", may)
	}
	n := math.MinInt
	for _, i := range []api.Ins{{Op: 255, R: n, A: n, B: n, N: math.MinInt64, Args: list(n)}, {}, constant(n), load(n, n), store(math.MaxInt, n), call(n, n, math.MaxInt)} {
		x := api.Block{To: list(n), From: list(n, math.MaxInt), Phis: []api.Phi{phi(n, n), {}}, Code: []api.Ins{i}}
		for _, params := range []int{n, -1, 0, 1, math.MaxInt} {
			for _, regs := range []int{n, -1, 0, 1, math.MaxInt} {
				mayNot(t, "whatever", api.Graph{Params: params, Regs: regs, Blocks: []api.Block{x}})
				mayNot(t, "whatever, no blocks", api.Graph{Params: params, Regs: regs})
			}
		}
	}
}

// spoil changes something of a graph.
func (m *maker) spoil(g *api.Graph) {
	n := pick(m, -1, 0, 1, 2, 3, len(g.Blocks), g.Regs, math.MinInt, math.MaxInt)
	b := m.next(len(g.Blocks))
	x := &g.Blocks[b]
	switch m.next(10) {
	case 0:
		g.Params = n
	case 1:
		g.Regs = n
	case 2:
		g.Thread = true
	case 3:
		x.To = append(slices.Clone(x.To), n)
	case 4:
		x.From = append(slices.Clone(x.From), n)
	case 5:
		x.Phis = append(slices.Clone(x.Phis), phi(n, n))
	case 6:
		if len(x.Code) > 0 {
			x.Code[m.next(len(x.Code))].A = n
		}
	case 7:
		if len(x.Code) > 0 {
			x.Code[m.next(len(x.Code))].Op = uint8(m.next(16))
		}
	case 8:
		x.Code = slices.Insert(x.Code, m.next(len(x.Code)+1), pick(m, show(n), jump(), back(0), call(0, n)))
	case 9:
		if len(x.Phis) > 0 {
			x.Phis[0].Args = x.Phis[0].Args[:len(x.Phis[0].Args)-1]
		}
	}
}

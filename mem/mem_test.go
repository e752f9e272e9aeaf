package mem_test

import (
	"math"
	"slices"
	"strconv"
	"testing"

	"bobbin/api"
	"bobbin/mem"
)

// far are numbers that are none of any things' numbers.
func far() []int {
	return []int{math.MinInt, math.MinInt + 1, math.MinInt32, -1 << 32, -257, -256, -2, -1, 1 << 20, math.MaxInt32, 1 << 32, 1<<32 + 1, math.MaxInt - 1, math.MaxInt}
}

func fails(t *testing.T, what string, got, want api.Errno) {
	t.Helper()
	if got != want {
		t.Errorf("%s: %v, not %v", what, got, want)
	}
}

// holds asks who holds a lock.
func holds(t *testing.T, m *mem.Mem, lock, who int, held bool) {
	t.Helper()
	if n, ok := m.Holder(lock); n != who || ok != held {
		t.Errorf("Holder(%d): %d, %v, not %d, %v", lock, n, ok, who, held)
	}
}

// P8.1 to P8.3: the chapter's examples.
func TestExamples(t *testing.T) {
	m, err := mem.New([]api.Mem{{Size: 2, First: 7}}, 1)
	fails(t, "New", err, api.OK)
	fails(t, "Set(0, 1, 5)", m.Set(0, 1, 5), api.OK)
	if l := m.Cells(); !alike(l, [][]int64{{7, 5}}) {
		t.Error("Cells:", l)
	}
	v, err := m.Get(0, 2)
	fails(t, "Get(0, 2)", err, api.ErrNone)
	if v != 0 {
		t.Error("Get(0, 2):", v)
	}
	fails(t, "Take(0, 3)", m.Take(0, 3), api.OK)
	fails(t, "Take(0, 3)", m.Take(0, 3), api.ErrTwice)
	fails(t, "Give(0, 4)", m.Give(0, 4), api.ErrState)
	holds(t, m, 0, 3, true)
	fails(t, "Give(0, 3)", m.Give(0, 3), api.OK)
	holds(t, m, 0, 0, false)
}

// P8.1: globals that may be, and that may not be, wherever they stand.
func TestSizes(t *testing.T) {
	for size, want := range map[int]api.Errno{
		math.MinInt: api.ErrForm, math.MinInt32: api.ErrForm, -1024: api.ErrForm, -1: api.ErrForm, 0: api.ErrForm,
		1: api.OK, 2: api.OK, 77: api.OK, api.MaxSize - 1: api.OK, api.MaxSize: api.OK,
		api.MaxSize + 1: api.ErrForm, 1 << 31: api.ErrForm, 1 << 32: api.ErrForm, 1<<32 + 1: api.ErrForm, math.MaxInt: api.ErrForm,
	} {
		for at := range 4 {
			l := []api.Mem{{Size: 1, First: 1}, {Size: 3, First: 2}, {Size: api.MaxSize, First: 3}}
			l = slices.Insert(l, at, api.Mem{Name: "x", Size: size, First: -9})
			kept := slices.Clone(l)
			m, err := mem.New(l, 2)
			what := "Size " + strconv.Itoa(size) + " at " + strconv.Itoa(at)
			fails(t, what, err, want)
			if (m != nil) != (want == api.OK) {
				t.Errorf("%s: a memory, or none: %v", what, m)
			}
			if !slices.Equal(l, kept) {
				t.Errorf("%s: changed: %v", what, l)
			}
			if want == api.OK {
				(&journal{globals: l, locks: 2}).agree(t, m)
			}
		}
	}
}

// P8.1: how many locks there may be; a global that may not be is told ahead of them.
func TestLocksCount(t *testing.T) {
	bad := []api.Mem{{Size: 1}, {Size: 0}}
	for _, l := range [][]api.Mem{nil, {}, {{Size: 1}}, {{Size: 2, First: 4}, {Size: 1}}} {
		for _, locks := range []int{0, 1, 2, api.MaxDecls - 1, api.MaxDecls} {
			m, j := lay(t, l, locks)
			j.agree(t, m)
			none, err := mem.New(bad, locks)
			fails(t, "a global that may not be", err, api.ErrForm)
			if none != nil {
				t.Error("a memory beside an error")
			}
		}
		for _, locks := range append(far(), api.MaxDecls+1, api.MaxDecls+2, 2*api.MaxDecls) {
			m, err := mem.New(l, locks)
			fails(t, strconv.Itoa(locks)+" locks", err, api.ErrArg)
			none, first := mem.New(bad, locks)
			fails(t, strconv.Itoa(locks)+" locks and a global that may not be", first, api.ErrForm)
			if m != nil || none != nil {
				t.Error("a memory beside an error")
			}
		}
	}
}

// P8.1, P8.5: the names of globals are not asked.
func TestNames(t *testing.T) {
	m, j := lay(t, []api.Mem{{Size: 1, First: 1}, {Name: "if", Size: 1, First: 2}, {Name: "x", Size: 1, First: 3}, {Name: "x", Size: 2, First: 4}, {Name: "\xff", Size: 1, First: 5}}, 0)
	j.agree(t, m)
}

// shapes are globals: none, one, many.
func shapes() [][]api.Mem {
	many := make([]api.Mem, 300)
	for i := range many {
		many[i] = api.Mem{Size: 1 + i%4, First: int64(i) - 150}
	}
	return [][]api.Mem{
		nil,
		{},
		{{Size: 1}},
		{{Size: 1, First: math.MinInt64}},
		{{Size: 2, First: 7}},
		{{Size: 1, First: 5}, {Size: 1, First: 5}},
		{{Size: 3, First: -1}, {Size: 1, First: math.MaxInt64}, {Size: 2}},
		{{Size: api.MaxSize, First: 3}},
		{{Size: 2, First: 1}, {Size: api.MaxSize, First: 2}, {Size: 1, First: 3}},
		many,
	}
}

// P8.5: at first each cell is First, as many as there are, no lock is held, and beyond there is none.
func TestAtFirst(t *testing.T) {
	for _, l := range shapes() {
		for _, locks := range []int{0, 1, 5, api.MaxDecls} {
			m, j := lay(t, l, locks)
			j.agree(t, m)
			for number, cells := range m.Cells() {
				if want := slices.Repeat([]int64{l[number].First}, l[number].Size); !slices.Equal(cells, want) {
					t.Fatalf("of %+v: %v", l[number], cells)
				}
			}
			if n := len(m.Cells()); n != len(l) {
				t.Fatalf("of %d globals: %d", len(l), n)
			}
			for lock := range locks {
				holds(t, m, lock, 0, false)
			}
		}
	}
}

// P8.3: each cell is set and read back, and no other cell and no lock changes by that.
func TestCells(t *testing.T) {
	for _, l := range shapes() {
		m, _ := lay(t, l, 3)
		fails(t, "Take", m.Take(0, 8), api.OK)
		fails(t, "Take", m.Take(2, -8), api.OK)
		want := m.Cells()
		v := int64(1 << 40)
		for number, g := range l {
			for place := range g.Size {
				for _, x := range []int64{v, math.MinInt64, math.MaxInt64, 0, -v} {
					fails(t, "Set", m.Set(number, place, x), api.OK)
					if got, err := m.Get(number, place); got != x || err != api.OK {
						t.Fatalf("Get(%d, %d): %d, %v, not %d", number, place, got, err, x)
					}
				}
				want[number][place] = -v
				v++
				if got := m.Cells(); !alike(got, want) {
					t.Fatalf("Cells behind Set(%d, %d): %v, not %v", number, place, got, want)
				}
			}
		}
		holds(t, m, 0, 8, true)
		holds(t, m, 1, 0, false)
		holds(t, m, 2, -8, true)
	}
}

// P8.1, P8.3: a memory of many cells, each with a number of its own.
func TestMany(t *testing.T) {
	m, _ := lay(t, slices.Repeat([]api.Mem{{Size: api.MaxSize, First: -1}}, 1500), api.MaxDecls)
	for number := range 1500 {
		for place := range api.MaxSize {
			m.Set(number, place, int64(number)<<16|int64(place))
		}
	}
	for number, l := range m.Cells() {
		for place, v := range l {
			if got, err := m.Get(number, place); v != int64(number)<<16|int64(place) || got != v || err != api.OK {
				t.Fatalf("the cell %d of %d: %d, %d, %v", place, number, v, got, err)
			}
		}
	}
}

// P8.1: numbers of globals and places that are none: no such global is told ahead of no such place; nothing changes.
func TestNoCell(t *testing.T) {
	for _, l := range shapes() {
		m, _ := lay(t, l, 2)
		fails(t, "Take", m.Take(1, 1), api.OK)
		before := m.Copy()
		refused := func(number, place int, want api.Errno) {
			t.Helper()
			v, err := m.Get(number, place)
			if v != 0 || err != want {
				t.Errorf("Get(%d, %d): %d, %v, not %v", number, place, v, err, want)
			}
			fails(t, "Set", m.Set(number, place, 99), want)
		}
		for _, number := range append(far(), len(l), len(l)+1) {
			if number >= 0 && number < len(l) {
				continue
			}
			for _, place := range append(far(), 0, 1, api.MaxSize) {
				refused(number, place, api.ErrArg)
			}
		}
		for number, g := range l {
			for _, place := range append(far(), g.Size, g.Size+1, -g.Size) {
				refused(number, place, api.ErrNone)
			}
		}
		if !mem.Same(m, before) || !alike(m.Cells(), before.Cells()) {
			t.Errorf("changed: %v, not %v", m.Cells(), before.Cells())
		}
	}
}

// P8.1: numbers of locks that are none, told ahead of who holds what; nothing changes.
func TestNoLock(t *testing.T) {
	for _, locks := range []int{0, 1, 2, 7, api.MaxDecls} {
		m, _ := lay(t, []api.Mem{{Size: 2, First: 4}}, locks)
		for lock := range locks {
			if lock%2 == 0 {
				fails(t, "Take", m.Take(lock, lock), api.OK)
			}
		}
		before := m.Copy()
		for _, lock := range append(far(), locks, locks+1, api.MaxDecls, api.MaxDecls+1) {
			for _, who := range append(far(), 0, 1, lock) {
				fails(t, "Take("+strconv.Itoa(lock)+")", m.Take(lock, who), api.ErrArg)
				holds(t, m, lock, 0, false)
				fails(t, "Give("+strconv.Itoa(lock)+")", m.Give(lock, who), api.ErrArg)
			}
		}
		if !mem.Same(m, before) {
			t.Error("changed")
		}
		for lock := range locks {
			holds(t, m, lock, (1-lock%2)*lock, lock%2 == 0)
		}
	}
}

// P8.1, P8.3: a lock is taken by whoever, by nobody else while it is held, given by who holds it alone, and taken again.
func TestLocks(t *testing.T) {
	everybody := []int{0, 1, 2, 3, -1, -2, 15, 16, 255, 256, math.MinInt, math.MaxInt, math.MinInt32, math.MaxInt32, 1 << 32, -1 << 32}
	for _, at := range []int{0, 1, 4, api.MaxDecls - 1} {
		m, j := lay(t, []api.Mem{{Size: 2, First: 5}, {Size: 1}}, at+1)
		for _, who := range everybody {
			for _, other := range everybody {
				fails(t, "Give of what nobody holds", m.Give(at, other), api.ErrState)
			}
			fails(t, "Take", m.Take(at, who), j.take(at, who))
			for _, other := range everybody {
				fails(t, "Take of what is held", m.Take(at, other), api.ErrTwice)
				if other != who {
					fails(t, "Give by who does not hold it", m.Give(at, other), api.ErrState)
				}
				holds(t, m, at, who, true)
			}
			j.agree(t, m)
			fails(t, "Give", m.Give(at, who), j.give(at, who))
			fails(t, "Give of what was given", m.Give(at, who), api.ErrState)
			j.agree(t, m)
		}
	}
}

// P8.3: locks do not hang together: of all that there may be each one is taken and given, in another row, the others staying as they are.
func TestAllLocks(t *testing.T) {
	m, j := lay(t, []api.Mem{{Size: 1, First: 6}}, api.MaxDecls)
	for i := range api.MaxDecls {
		lock := i * 37 % api.MaxDecls
		fails(t, "Take", m.Take(lock, lock/3-9), j.take(lock, lock/3-9))
		j.agree(t, m)
	}
	fails(t, "Set", m.Set(0, 0, 1), j.set(0, 0, 1))
	for i := range api.MaxDecls {
		lock := i * 101 % api.MaxDecls
		fails(t, "Take", m.Take(lock, 4), api.ErrTwice)
		fails(t, "Give", m.Give(lock, lock/3-9), j.give(lock, lock/3-9))
		j.agree(t, m)
	}
}

// P8.1, P8.2: a nil memory, in each call, whatever stands beside it; one that was made otherwise does not panic.
func TestNil(t *testing.T) {
	var none *mem.Mem
	for _, n := range append(far(), 0, 1) {
		v, err := none.Get(n, n)
		fails(t, "Get of nil", err, api.ErrNil)
		if v != 0 {
			t.Error("Get of nil:", v)
		}
		fails(t, "Set of nil", none.Set(n, n, 1), api.ErrNil)
		fails(t, "Take of nil", none.Take(n, n), api.ErrNil)
		fails(t, "Give of nil", none.Give(n, n), api.ErrNil)
		holds(t, none, n, 0, false)
		other := new(mem.Mem)
		other.Get(n, n)
		other.Set(n, n, 1)
		other.Take(n, n)
		other.Give(n, n)
		other.Holder(n)
		other.Cells()
		mem.Same(other.Copy(), other)
	}
	if l := none.Cells(); len(l) != 0 {
		t.Error("Cells of nil:", l)
	}
	if c := none.Copy(); c != nil {
		t.Error("Copy of nil:", c)
	}
	if !mem.Same(nil, nil) || !mem.Same(none, none.Copy()) {
		t.Error("two of nil are not the same")
	}
	for _, l := range shapes() {
		m, _ := lay(t, l, 0)
		if mem.Same(m, nil) || mem.Same(nil, m) {
			t.Error("one of nil is the same")
		}
	}
}

// P8.2: a copy goes its own way, and so does what it was copied from.
func TestCopies(t *testing.T) {
	m, j := lay(t, []api.Mem{{Size: 2, First: 1}, {Size: 1, First: 2}}, 3)
	fails(t, "Set", m.Set(0, 1, 10), j.set(0, 1, 10))
	fails(t, "Take", m.Take(1, 5), j.take(1, 5))
	for turn := range 2 {
		first, second := m, m.Copy()
		if turn == 1 {
			first, second = second, first
		}
		own := j.copied()
		fails(t, "Set", second.Set(0, 1, 33), own.set(0, 1, 33))
		if v, _ := first.Get(0, 1); v != 10 {
			t.Error("one sees what was put into a cell of the other:", v)
		}
		fails(t, "Take", second.Take(0, 6), own.take(0, 6))
		fails(t, "Give", second.Give(1, 5), own.give(1, 5))
		fails(t, "Take", second.Take(1, 7), own.take(1, 7))
		own.agree(t, second)
		j.agree(t, first)
		fails(t, "Take of what the other one took", first.Take(0, 8), api.OK)
		fails(t, "Give of what the other one gave", first.Give(1, 5), api.OK)
		fails(t, "Give", first.Give(0, 8), api.OK)
		fails(t, "Take", first.Take(1, 5), api.OK)
		own.agree(t, second)
		j.agree(t, first)
	}
}

// P8.2: all of a copy is as it was, its locks too, those beyond them as well.
func TestCopied(t *testing.T) {
	for _, l := range shapes() {
		for _, locks := range []int{0, 1, api.MaxDecls} {
			m, j := lay(t, l, locks)
			for number := range l {
				m.Set(number, 0, int64(number)*3)
				j.set(number, 0, int64(number)*3)
			}
			for lock := 0; lock < locks; lock += 3 {
				fails(t, "Take", m.Take(lock, -lock), j.take(lock, -lock))
			}
			c := m.Copy().Copy()
			j.agree(t, c)
			if !mem.Same(m, c) || !mem.Same(c, m) {
				t.Error("a copy is not the same")
			}
			fails(t, "Take of the one beyond", c.Take(locks, 0), api.ErrArg)
			if locks > 0 {
				fails(t, "Take of the last one", c.Take(locks-1, 0), j.take(locks-1, 0))
			}
		}
	}
}

// P8.2: the same, and what is not, asked either way about.
func TestSame(t *testing.T) {
	base := func() *mem.Mem {
		m, _ := lay(t, []api.Mem{{Name: "x", Size: 2, First: 1}, {Name: "y", Size: 1}}, 3)
		fails(t, "Take", m.Take(1, 4), api.OK)
		return m
	}
	for _, x := range []struct {
		what string
		same bool
		do   func(m *mem.Mem)
	}{
		{"nothing", true, func(m *mem.Mem) {}},
		{"what was there", true, func(m *mem.Mem) { m.Set(0, 1, 1) }},
		{"there and back", true, func(m *mem.Mem) { m.Set(0, 1, 2); m.Set(0, 1, 1) }},
		{"a refused one", true, func(m *mem.Mem) { m.Set(0, 2, 2); m.Take(1, 5); m.Give(1, 5); m.Give(0, 0); m.Take(3, 0) }},
		{"taken and given", true, func(m *mem.Mem) { m.Take(0, 3); m.Give(0, 3) }},
		{"given and taken", true, func(m *mem.Mem) { m.Give(1, 4); m.Take(1, 4) }},
		{"asked", true, func(m *mem.Mem) { m.Cells()[0][0] = 9; m.Copy().Set(0, 0, 9); m.Holder(0); m.Get(0, 0) }},
		{"the first cell", false, func(m *mem.Mem) { m.Set(0, 0, 1+1<<32) }},
		{"the second cell", false, func(m *mem.Mem) { m.Set(0, 1, -1) }},
		{"the last cell", false, func(m *mem.Mem) { m.Set(1, 0, math.MinInt64) }},
		{"a lock taken", false, func(m *mem.Mem) { m.Take(0, 4) }},
		{"a lock taken by 0", false, func(m *mem.Mem) { m.Take(2, 0) }},
		{"a lock given", false, func(m *mem.Mem) { m.Give(1, 4) }},
		{"another holder", false, func(m *mem.Mem) { m.Give(1, 4); m.Take(1, 0) }},
		{"another lock held", false, func(m *mem.Mem) { m.Give(1, 4); m.Take(2, 4) }},
	} {
		a, b := base(), base()
		x.do(b)
		if mem.Same(a, b) != x.same || mem.Same(b, a) != x.same || !mem.Same(b, b) || !mem.Same(b, b.Copy()) {
			t.Errorf("%s: the same, or not: not %v", x.what, x.same)
		}
	}
}

// P8.2: memories that were made of other lists: what counts is what is in their cells.
func TestSameShapes(t *testing.T) {
	lists := [][]api.Mem{
		nil,
		{{Size: 1, First: 5}},
		{{Size: 1, First: 4}},
		{{Size: 2, First: 5}},
		{{Size: 1, First: 5}, {Size: 1, First: 5}},
		{{Size: 1, First: 5}, {Size: 2, First: 5}},
		{{Size: 2, First: 5}, {Size: 1, First: 5}},
		{{Size: 3, First: 5}},
		{{Size: 1, First: 5}, {Size: 1, First: 5}, {Size: 1, First: 5}},
	}
	for i, l := range lists {
		for k, other := range lists {
			a, _ := lay(t, l, 2)
			b, _ := lay(t, other, 2)
			if mem.Same(a, b) != (i == k) {
				t.Errorf("%v and %v: not %v", l, other, i == k)
			}
		}
	}
	a, _ := lay(t, []api.Mem{{Name: "x", Size: 2, First: 4}}, 1)
	b, _ := lay(t, []api.Mem{{Name: "y", Size: 2, First: 5}}, 2)
	a.Set(0, 0, 5)
	if mem.Same(a, b) {
		t.Error("with another cell the same")
	}
	a.Set(0, 1, 5)
	if !mem.Same(a, b) || !mem.Same(b, a) {
		t.Error("with the same cells, nobody holding anything, not the same")
	}
}

// R3: what is handed in is not kept, nor read behind its end.
func TestHandedIn(t *testing.T) {
	full := []api.Mem{{Size: 2, First: 3}, {Size: 1, First: 4}, {Size: 0}, {Size: -1}}
	l := full[:2]
	m, err := mem.New(l, 1)
	fails(t, "New, with more behind the end", err, api.OK)
	for i := range full {
		full[i] = api.Mem{Size: 9, First: 99}
	}
	(&journal{globals: []api.Mem{{Size: 2, First: 3}, {Size: 1, First: 4}}, locks: 1}).agree(t, m)
}

// R3, P8.2: Cells are new each time, their spare room too, and no two of their lists share any.
func TestHandedOut(t *testing.T) {
	for _, l := range shapes() {
		m, j := lay(t, l, 1)
		for number := range l {
			m.Set(number, 0, int64(number))
			j.set(number, 0, int64(number))
		}
		c := m.Copy()
		first, second := m.Cells(), m.Cells()
		for i := range first {
			spoil(first[i], -int64(i)-1000000)
		}
		for i, cells := range first {
			for _, v := range cells[:cap(cells)] {
				if v != -int64(i)-1000000 {
					t.Fatalf("the list %d has what was written into another one: %d", i, v)
				}
			}
		}
		clear(first[:cap(first)])
		if !alike(second, j.cells()) {
			t.Fatal("an answer has what was written into another one:", second)
		}
		j.agree(t, m)
		j.agree(t, c)
		for _, cells := range second {
			spoil(cells, 5)
		}
		j.agree(t, m)
		j.agree(t, c)
	}
}

// spoil writes into a list and the room behind its end.
func spoil(l []int64, v int64) {
	l = l[:cap(l)]
	for i := range l {
		l[i] = v
	}
}

// P8.1 to P8.3: whatever is done to memories and their copies, in any row, held against what was done.
func TestAnyRow(t *testing.T) {
	k := &maker{seed: 3}
	met := map[api.Errno]int{}
	for range 300 {
		locks := pick(k, 0, 1, 2, 4, api.MaxDecls)
		m, j := lay(t, k.globals(), locks)
		memories, journals := []*mem.Mem{m}, []*journal{j}
		for range 120 {
			at := k.next(len(memories))
			if k.next(30) == 0 {
				memories, journals = append(memories, memories[at].Copy()), append(journals, journals[at].copied())
			}
			got, want := deeded(k, memories[at], journals[at])
			met[want]++
			if got != want {
				t.Fatalf("%v, not %v, behind %v", got, want, journals[at].deeds)
			}
		}
		for i := range memories {
			journals[i].agree(t, memories[i])
			for o := range memories {
				if want := journals[i].same(journals[o]); mem.Same(memories[i], memories[o]) != want {
					t.Fatalf("Same: not %v, behind %v and %v", want, journals[i].deeds, journals[o].deeds)
				}
			}
		}
	}
	for _, err := range []api.Errno{api.OK, api.ErrArg, api.ErrNone, api.ErrTwice, api.ErrState} {
		if met[err] < 500 {
			t.Errorf("only %d times: %v", met[err], err)
		}
	}
}

// deeded does something to a memory, and to its journal: what is answered, and what has to be.
func deeded(k *maker, m *mem.Mem, j *journal) (api.Errno, api.Errno) {
	who, lock := k.somebody(), k.index(min(j.locks, 6))
	if holder, held := j.holder(lock); held && k.next(3) > 0 {
		who = holder
	}
	switch k.next(3) {
	case 0:
		return m.Take(lock, who), j.take(lock, who)
	case 1:
		return m.Give(lock, who), j.give(lock, who)
	}
	number := k.index(len(j.globals))
	size := 1
	if number >= 0 && number < len(j.globals) {
		size = j.globals[number].Size
	}
	place, v := k.index(size), k.number()
	return m.Set(number, place, v), j.set(number, place, v)
}

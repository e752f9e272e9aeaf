package mem_test

import (
	"slices"
	"testing"

	"bobbin/api"
	"bobbin/mem"
)

// journal is all that was done to a memory, in its row; out of it is told what the memory has to answer.
type journal struct {
	globals []api.Mem
	locks   int
	deeds   []deed
}

// deed is one that was not refused.
type deed struct {
	what          string
	number, place int // of a global, or a lock
	v             int64
	who           int
}

// lay is a memory with its journal.
func lay(t *testing.T, l []api.Mem, locks int) (*mem.Mem, *journal) {
	t.Helper()
	m, err := mem.New(l, locks)
	if m == nil || err != api.OK {
		t.Fatalf("New(%v, %d): %v", l, locks, err)
	}
	return m, &journal{globals: slices.Clone(l), locks: locks}
}

// copied is a journal that goes its own way.
func (j *journal) copied() *journal {
	return &journal{globals: j.globals, locks: j.locks, deeds: slices.Clone(j.deeds)}
}

// last is the last deed of which something holds.
func (j *journal) last(holds func(d deed) bool) (deed, bool) {
	for i := len(j.deeds) - 1; i >= 0; i-- {
		if holds(j.deeds[i]) {
			return j.deeds[i], true
		}
	}
	return deed{}, false
}

// get is what Get has to answer.
func (j *journal) get(number, place int) (int64, api.Errno) {
	switch {
	case number < 0 || number >= len(j.globals):
		return 0, api.ErrArg
	case place < 0 || place >= j.globals[number].Size:
		return 0, api.ErrNone
	}
	d, ok := j.last(func(d deed) bool { return d.what == "set" && d.number == number && d.place == place })
	if !ok {
		return j.globals[number].First, api.OK
	}
	return d.v, api.OK
}

// holder is what Holder has to answer.
func (j *journal) holder(lock int) (int, bool) {
	d, ok := j.last(func(d deed) bool { return d.what != "set" && d.number == lock })
	if !ok || d.what == "give" {
		return 0, false
	}
	return d.who, true
}

// set is what Set has to answer.
func (j *journal) set(number, place int, v int64) api.Errno {
	_, err := j.get(number, place)
	if err == api.OK {
		j.deeds = append(j.deeds, deed{what: "set", number: number, place: place, v: v})
	}
	return err
}

// take is what Take has to answer.
func (j *journal) take(lock, who int) api.Errno {
	if lock < 0 || lock >= j.locks {
		return api.ErrArg
	}
	if _, held := j.holder(lock); held {
		return api.ErrTwice
	}
	j.deeds = append(j.deeds, deed{what: "take", number: lock, who: who})
	return api.OK
}

// give is what Give has to answer.
func (j *journal) give(lock, who int) api.Errno {
	if lock < 0 || lock >= j.locks {
		return api.ErrArg
	}
	holder, held := j.holder(lock)
	if !held || holder != who {
		return api.ErrState
	}
	j.deeds = append(j.deeds, deed{what: "give", number: lock})
	return api.OK
}

// cells is what Cells has to answer.
func (j *journal) cells() [][]int64 {
	var out [][]int64
	for number, g := range j.globals {
		var l []int64
		for place := range g.Size {
			v, _ := j.get(number, place)
			l = append(l, v)
		}
		out = append(out, l)
	}
	return out
}

// same is what Same has to answer.
func (j *journal) same(other *journal) bool {
	for lock := range max(j.locks, other.locks) {
		who, held := j.holder(lock)
		who2, held2 := other.holder(lock)
		if who != who2 || held != held2 {
			return false
		}
	}
	return alike(j.cells(), other.cells())
}

func alike(a, b [][]int64) bool { return slices.EqualFunc(a, b, slices.Equal) }

// agree holds a memory against its journal: all cells, all locks, and what is beyond them.
func (j *journal) agree(t *testing.T, m *mem.Mem) {
	t.Helper()
	if got, want := m.Cells(), j.cells(); !alike(got, want) {
		t.Fatalf("Cells: %v, not %v, behind %v", got, want, j.deeds)
	}
	for number := -1; number <= len(j.globals); number++ {
		size := 0
		if number >= 0 && number < len(j.globals) {
			size = j.globals[number].Size
		}
		for place := -1; place <= size; place++ {
			v, err := m.Get(number, place)
			if want, wrong := j.get(number, place); v != want || err != wrong {
				t.Fatalf("Get(%d, %d): %d, %v, not %d, %v, behind %v", number, place, v, err, want, wrong, j.deeds)
			}
		}
	}
	for lock := -1; lock <= j.locks; lock++ {
		who, held := m.Holder(lock)
		if want, is := j.holder(lock); who != want || held != is {
			t.Fatalf("Holder(%d): %d, %v, not %d, %v, behind %v", lock, who, held, want, is, j.deeds)
		}
	}
}

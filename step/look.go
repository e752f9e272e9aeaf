package step

import (
	"slices"

	"bobbin/api"
)

// At is a thread's next instruction.
func (s *State) At(thread int) (fun, at int, ok bool) {
	if !s.stands(thread) {
		return 0, 0, false
	}
	f := s.turnOf(thread).frame
	return f.fun, f.at, true
}

// Cell is a thread's cell.
func (s *State) Cell(thread int) (api.Access, bool) {
	if !s.Can(thread) {
		return api.Access{}, false
	}
	t := s.turnOf(thread)
	if t.ins.Op != api.OLoad && t.ins.Op != api.OStore {
		return api.Access{}, false
	}
	cell := api.Access{Mem: int(t.ins.N), Place: t.place(), Write: t.ins.Op == api.OStore}
	if _, err := s.memory.Get(cell.Mem, cell.Place); err != api.OK {
		return api.Access{}, false
	}
	return cell, true
}

// Races are all pairs of threads that race.
func (s *State) Races() [][2]int {
	var out [][2]int
	for first := range s.Threads() {
		for second := first + 1; second < s.Threads(); second++ {
			if s.race(first, second) {
				out = append(out, [2]int{first, second})
			}
		}
	}
	return out
}

// race says whether two threads have the same cell, and one of them would write.
func (s *State) race(first, second int) bool {
	a, ok := s.Cell(first)
	b, ok2 := s.Cell(second)
	return ok && ok2 && a.Mem == b.Mem && a.Place == b.Place && (a.Write || b.Write)
}

// Holder is who holds a lock.
func (s *State) Holder(lock int) (int, bool) {
	if s == nil {
		return 0, false
	}
	return s.memory.Holder(lock)
}

// Cells are all cells.
func (s *State) Cells() [][]int64 {
	if s == nil {
		return nil
	}
	return s.memory.Cells()
}

// Out is what was printed.
func (s *State) Out() []int64 {
	if s == nil {
		return nil
	}
	return slices.Clone(s.out)
}

package run_test

import (
	"slices"
	"testing"

	"bobbin/api"
	"bobbin/run"
	"bobbin/step"
)

// trail is a run that was done one step after the other, as the chapter says it: each state that it came to, and
// whose steps they were. Who goes on is reckoned here, of Can alone.
type trail struct {
	states []*step.State
	row    []int
}

// trailed is a run that has done no step yet.
func trailed(t *testing.T, p api.Prog) *trail {
	t.Helper()
	s, err := step.New(p)
	if s == nil || err != api.OK {
		t.Fatalf("New: %v of %+v", err, p)
	}
	return &trail{states: []*step.State{s}}
}

// last is the state to which it came.
func (l *trail) last() *step.State { return l.states[len(l.states)-1] }

// able are all that can go on.
func (l *trail) able() []int {
	var out []int
	for thread := range l.last().Threads() {
		if l.last().Can(thread) {
			out = append(out, thread)
		}
	}
	return out
}

// step is a step of one that can go on.
func (l *trail) step(t *testing.T, thread int) {
	t.Helper()
	s := l.last().Copy()
	if err := s.Step(thread); err != api.OK {
		t.Fatalf("Step(%d) behind %v: %v", thread, l.row, err)
	}
	l.states, l.row = append(l.states, s), append(l.row, thread)
}

// play goes on by picks.
func (l *trail) play(t *testing.T, picks []int) *trail {
	t.Helper()
	for _, n := range picks {
		if able := l.able(); len(able) > 0 {
			l.step(t, able[uint64(n)%uint64(len(able))])
		}
	}
	return l
}

// turns goes on by turns, as many steps as there are, but no more than so many.
func (l *trail) turns(t *testing.T, most int) *trail {
	t.Helper()
	last := -1
	for len(l.row) < most && len(l.able()) > 0 {
		last = (last + 1) % l.last().Threads()
		if l.last().Can(last) {
			l.step(t, last)
		}
	}
	return l
}

// like goes on by a row.
func (l *trail) like(t *testing.T, row []int) *trail {
	t.Helper()
	for _, thread := range row {
		if slices.Contains(l.able(), thread) {
			l.step(t, thread)
		}
	}
	return l
}

// come is what has come of its first steps.
func (l *trail) come(steps int) run.Result {
	s := l.states[steps]
	return run.Result{Ending: s.Ending(), Out: s.Out(), Cells: s.Cells(), Steps: steps, Row: l.row[:steps]}
}

// all is what has come of it.
func (l *trail) all() run.Result { return l.come(len(l.row)) }

// race is the number of the first state in which two threads race, of Cell alone; -1, if there is none.
func (l *trail) race() int {
	return slices.IndexFunc(l.states, func(s *step.State) bool {
		met := map[[2]int]int{} // 1 of cells that are read, 2 of such as are written
		for thread := range s.Threads() {
			cell, has := s.Cell(thread)
			if !has {
				continue
			}
			place, how := [2]int{cell.Mem, cell.Place}, 1
			if cell.Write {
				how = 2
			}
			if met[place]+how > 2 {
				return true
			}
			met[place] = how
		}
		return false
	})
}

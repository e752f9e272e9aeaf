package run

import (
	"bobbin/api"
	"bobbin/step"
)

// stepper does the next step in a state: whose it was, and whether there was one.
type stepper func(s *step.State) (int, bool)

// walk is a run that goes on.
type walk struct {
	state *step.State
	next  stepper
	row   []int // whose steps were done
}

// goOn does a step more, and says whether there was one.
func (w *walk) goOn() bool {
	thread, is := w.next(w.state)
	if is {
		w.row = append(w.row, thread)
	}
	return is
}

// whole is what comes of the run, gone on with to its end.
func (w *walk) whole() Result {
	for w.goOn() {
	}
	s := w.state
	return Result{Ending: s.Ending(), Out: s.Out(), Cells: s.Cells(), Steps: len(w.row), Row: w.row}
}

// noRace is the number of no state.
const noRace = -1

// firstRace is the number of the first state in which two threads race.
func (w *walk) firstRace() int {
	for len(w.state.Races()) == 0 {
		if !w.goOn() {
			return noRace
		}
	}
	return len(w.row)
}

// byPicks does a step a pick.
func byPicks(picks []int) stepper {
	return func(s *step.State) (int, bool) {
		if len(picks) == 0 {
			return 0, false
		}
		thread, err := s.Pick(picks[0])
		picks = picks[1:]
		return thread, err == api.OK
	}
}

// byTurns does as many steps as fuel says.
func byTurns(fuel int) stepper {
	return func(s *step.State) (int, bool) {
		if fuel <= 0 {
			return 0, false
		}
		fuel--
		thread, err := s.Next()
		return thread, err == api.OK
	}
}

// byRow does a step for each number of a row, and leaves out those that can't go on.
func byRow(row []int) stepper {
	return func(s *step.State) (int, bool) {
		for len(row) > 0 {
			thread := row[0]
			row = row[1:]
			if s.Step(thread) == api.OK {
				return thread, true
			}
		}
		return 0, false
	}
}

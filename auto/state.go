package auto

import "winnowfan/sim"

const mostStates = 100

// state is a set of steps, and what is known of it.
type state struct {
	steps  sim.Steps
	isDone bool
	next   map[move]*state
}

// move is what leads from one place to the next one: the byte between, and what that place is.
type move struct {
	taken byte
	to    sim.Place
}

func (a *Auto) begin(at sim.Place) *state {
	begun := a.begins[at]
	if begun == nil {
		begun = a.keep(a.ways.Begin(at))
		a.begins[at] = begun
	}
	return begun
}

func (a *Auto) next(now *state, m move) *state {
	next := now.next[m]
	if next == nil {
		next = a.keep(a.ways.Next(now.steps, m.taken, m.to))
		now.next[m] = next // nobody comes to now again, if it has just been forgotten
	}
	return next
}

// keep is the one state of a set of steps.
func (a *Auto) keep(steps sim.Steps) *state {
	if known := a.known[steps]; known != nil {
		return known
	}
	if len(a.known) == mostStates {
		a.forget()
	}
	kept := &state{steps: steps, isDone: a.ways.IsDone(steps), next: map[move]*state{}}
	a.known[steps] = kept
	return kept
}

// forget all states, and with them what leads to them.
func (a *Auto) forget() {
	a.known = map[sim.Steps]*state{}
	a.begins = map[sim.Place]*state{}
}

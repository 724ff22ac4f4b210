package sim

import (
	"slices"

	"winnowfan/api"
	"winnowfan/class"
	"winnowfan/prog"
)

// Place is what a program can ask of a place of a text.
type Place struct {
	First, Last bool // the text begins here, it ends here
}

// PlaceOf is what a program is told of a place of a text.
func PlaceOf(text string, at int) Place {
	return Place{First: at == 0, Last: at == len(text)}
}

// Ways goes all ways of a program at once. It has all steps that the program comes to at one place ahead of the next
// one, so that ways that meet there are gone on once.
type Ways struct{ steps []api.Step }

// WaysOf a program: chapter 5's Check.
func WaysOf(p []api.Step) (Ways, error) {
	if err := prog.Check(p); err != nil {
		return Ways{}, err
	}
	return Ways{slices.Clone(p)}, nil
}

// Begin are the steps that the program comes to at the place at which it is begun.
func (w Ways) Begin(at Place) Steps {
	return w.Reached(Steps{}.with(0), at)
}

// Next are the steps that the program comes to at the next place, from those at one place on, with the byte between.
func (w Ways) Next(now Steps, taken byte, at Place) Steps {
	var begun Steps
	for number := range now.rising {
		step := w.steps[number]
		if step.Op == api.Take && class.Has(step.Class, taken) {
			begun = begun.with(step.X)
		}
	}
	return w.Reached(begun, at)
}

// IsDone tells whether the program is at its end at one of some steps.
func (w Ways) IsDone(now Steps) bool {
	for number := range now.rising {
		if w.steps[number].Op == api.Done {
			return true
		}
	}
	return false
}

// Reached are the steps that the program comes to at a place, from some of them on, these too.
func (w Ways) Reached(begun Steps, at Place) Steps {
	var found Steps
	var visit func(number int)
	visit = func(number int) {
		if found.has(number) {
			return // ways may lead back to where they were, and would not end
		}
		found = found.with(number)
		step := w.steps[number]
		switch {
		case step.Op == api.Fork:
			visit(step.X)
			visit(step.Y)
		case step.Op == api.First && at.First, step.Op == api.Last && at.Last:
			visit(step.X)
		}
	}
	for number := range begun.rising {
		visit(number)
	}
	return found
}

// Later are all steps that the program can come to at any place behind one, from those there on, with whichever bytes
// between, where the text goes on behind that place as well.
func (w Ways) Later(now Steps) Steps {
	var found Steps
	var visit func(number int)
	visit = func(number int) {
		if found.has(number) {
			return
		}
		found = found.with(number)
		if step := w.steps[number]; step.Op == api.Fork {
			visit(step.X)
			visit(step.Y)
		} else if canTake(step) {
			visit(step.X)
		}
	}
	for number := range now.rising {
		if step := w.steps[number]; canTake(step) {
			visit(step.X)
		}
	}
	return found
}

// canTake tells whether there is a byte that a step takes.
func canTake(step api.Step) bool {
	return step.Op == api.Take && class.Many(step.Class) > 0
}

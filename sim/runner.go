package sim

import (
	"iter"

	"winnowfan/api"
	"winnowfan/class"
)

// runner runs a program that was checked on a text. It has all ways of the program at one place ahead of the next one,
// so that ways that meet there are gone on once.
type runner struct {
	steps []api.Step
	text  string
}

// ends goes through the places at which the program, begun at a place, can come to its end, rising.
func (r runner) ends(from int) iter.Seq[int] {
	return func(yield func(int) bool) {
		begun := []int{0}
		for at := from; len(begun) > 0; at++ {
			reached := r.reached(begun, at)
			if r.isDone(reached) && !yield(at) {
				return
			}
			begun = r.taken(reached, at)
		}
	}
}

// reached are the steps that the program comes to at a place, each once, from some of them on.
func (r runner) reached(begun []int, at int) []int {
	var found []int
	var seen [api.MaxSteps]bool
	var visit func(number int)
	visit = func(number int) {
		if seen[number] {
			return // ways may lead back to where they were, and would not end
		}
		seen[number] = true
		found = append(found, number)
		step := r.steps[number]
		switch {
		case step.Op == api.Fork:
			visit(step.X)
			visit(step.Y)
		case step.Op == api.First && at == 0, step.Op == api.Last && at == len(r.text):
			visit(step.X)
		}
	}
	for _, number := range begun {
		visit(number)
	}
	return found
}

func (r runner) isDone(reached []int) bool {
	for _, number := range reached {
		if r.steps[number].Op == api.Done {
			return true
		}
	}
	return false
}

// taken are the steps at which the program goes on behind the byte at a place: none at the text's end.
func (r runner) taken(reached []int, at int) []int {
	var next []int
	for _, number := range reached {
		step := r.steps[number]
		if step.Op == api.Take && at < len(r.text) && class.Has(step.Class, r.text[at]) {
			next = append(next, step.X)
		}
	}
	return next
}

package prog

import (
	"winnowfan/api"
)

// builder makes steps of the nodes of a pattern that was checked. The steps of a part stand together: it is begun at the
// first of them, and left for the step behind the last of them, so that parts follow one another without more steps.
type builder struct {
	nodes []api.Node
	steps []api.Step
}

// part builds the part that begins at node i, and gives the place behind it.
func (b *builder) part(i int) int {
	next := len(b.steps) + 1
	switch b.nodes[i].Op {
	case api.Byte:
		b.add(api.Step{Op: api.Take, Class: b.nodes[i].Class, X: next})
	case api.Begin:
		b.add(api.Step{Op: api.First, X: next})
	case api.End:
		b.add(api.Step{Op: api.Last, X: next})
	case api.Cat:
		return b.part(b.part(i + 1))
	case api.Or:
		return b.or(i)
	case api.Star:
		return b.star(i)
	case api.Plus:
		return b.plus(i)
	case api.Opt:
		return b.opt(i)
	}
	return i + 1 // Empty needs no step
}

// or has a fork ahead of its first part, and behind that one a fork over the second part.
func (b *builder) or(i int) int {
	choice := b.hold()
	second := b.part(i + 1)
	over := b.hold()
	b.fork(choice, choice+1, over+1)
	end := b.part(second)
	b.fork(over, len(b.steps), len(b.steps))
	return end
}

// star has a fork ahead of its part, and one behind it.
func (b *builder) star(i int) int {
	choice := b.hold()
	end := b.plus(i)
	b.fork(choice, choice+1, len(b.steps))
	return end
}

// plus has a fork behind its part.
func (b *builder) plus(i int) int {
	again := len(b.steps)
	end := b.part(i + 1)
	choice := b.hold()
	b.fork(choice, again, choice+1)
	return end
}

// opt has a fork ahead of its part.
func (b *builder) opt(i int) int {
	choice := b.hold()
	end := b.part(i + 1)
	b.fork(choice, choice+1, len(b.steps))
	return end
}

func (b *builder) add(step api.Step) {
	b.steps = append(b.steps, step)
}

// hold keeps the place of a fork, as where it leads is not known yet, and gives its number.
func (b *builder) hold() int {
	b.add(api.Step{})
	return len(b.steps) - 1
}

func (b *builder) fork(at, x, y int) {
	b.steps[at] = api.Step{Op: api.Fork, X: x, Y: y}
}

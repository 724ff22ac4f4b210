package syn

import (
	"strings"

	"winnowfan/api"
	"winnowfan/class"
)

// writer writes the nodes of a pattern that was checked.
type writer struct {
	strings.Builder
	nodes []api.Node
}

// part writes the part that begins at node i, and gives the place behind it.
func (w *writer) part(i int, bracketed bool) int {
	if bracketed {
		w.WriteByte('(')
		defer w.WriteByte(')')
	}
	switch w.nodes[i].Op {
	case api.Byte:
		w.WriteString(class.Text(w.nodes[i].Class))
	case api.Begin:
		w.WriteByte('^')
	case api.End:
		w.WriteByte('$')
	case api.Cat:
		return w.two(i, "")
	case api.Or:
		return w.two(i, "|")
	case api.Star:
		return w.one(i, '*')
	case api.Plus:
		return w.one(i, '+')
	case api.Opt:
		return w.one(i, '?')
	}
	return i + 1
}

func (w *writer) two(i int, between string) int {
	second := w.part(i+1, w.needsBrackets(i, i+1))
	w.WriteString(between)
	return w.part(second, w.needsBrackets(i, second))
}

func (w *writer) one(i int, mark byte) int {
	end := w.part(i+1, w.needsBrackets(i, i+1))
	w.WriteByte(mark)
	return end
}

// needsBrackets tells whether the part of a whole would be read as something else without brackets about it.
func (w *writer) needsBrackets(whole, part int) bool {
	of := w.nodes[whole].Op
	second := part > whole+1
	switch w.nodes[part].Op {
	case api.Empty:
		return of != api.Or
	case api.Or:
		return of != api.Or || !second
	case api.Cat:
		return of != api.Or && !(of == api.Cat && second)
	}
	return false
}

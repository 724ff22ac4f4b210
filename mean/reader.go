package mean

import (
	"winnowfan/api"
	"winnowfan/class"
	"winnowfan/rex"
)

// spot is a part, by the node at which it begins, and a place of the text.
type spot struct{ node, at int }

// reader holds a pattern against a text.
type reader struct {
	nodes []api.Node
	text  string
	known map[spot]places // without it, ways that meet again would be gone again, each time twice as many
}

func reading(r []api.Node, text string) *reader {
	return &reader{nodes: r, text: text, known: map[spot]places{}}
}

// ends are the places to which the part that begins at a node fits from a place.
func (r *reader) ends(node, at int) places {
	here := spot{node, at}
	if known, ok := r.known[here]; ok {
		return known
	}
	found := r.look(node, at)
	r.known[here] = found
	return found
}

func (r *reader) look(node, at int) places {
	part := node + 1
	switch r.nodes[node].Op {
	case api.Byte:
		return when(at < len(r.text) && class.Has(r.nodes[node].Class, r.text[at]), at+1)
	case api.Begin:
		return when(at == 0, at)
	case api.End:
		return when(at == len(r.text), at)
	case api.Cat:
		return r.behind(r.second(node), r.ends(part, at))
	case api.Or:
		return r.ends(part, at).joined(r.ends(r.second(node), at))
	case api.Opt:
		return r.ends(part, at).with(at)
	case api.Star:
		return r.again(node, r.ends(part, at), at).with(at)
	case api.Plus:
		return r.again(node, r.ends(part, at), at)
	}
	return when(true, at)
}

// second is the node at which the second part of a Cat or an Or begins.
func (r *reader) second(node int) int {
	second, _ := rex.End(r.nodes, node+1) // the pattern is checked, and the node is there
	return second
}

// behind are the places to which a part fits from any of some places.
func (r *reader) behind(node int, from places) places {
	var found places
	for at := range from.rising {
		found = found.joined(r.ends(node, at))
	}
	return found
}

// again are the places to which the part of a Star or a Plus fits once, and those to which the Star or the Plus fits
// from there. The place from which the part was asked is left out: going on from it leads nowhere else, and would not
// end.
func (r *reader) again(node int, once places, from int) places {
	var more places
	for at := range once.rising {
		if at > from && !more.has(at) { // what follows a place of more is in more already
			more = more.joined(r.ends(node, at))
		}
	}
	return more.joined(once)
}

package set

import (
	"strings"

	"winnowfan/api"
	"winnowfan/find"
	"winnowfan/lit"
)

// member of a set: its number and its text, and what these say, so that no Scan has to ask again.
type member struct {
	api.Item
	nodes  []api.Node
	needed string
}

// memberOf a number and a text, and the pattern that the text says: what lit.Needed says is wrong with it.
func memberOf(item api.Item, r []api.Node) (member, error) {
	needed, err := lit.Needed(r)
	if err != nil {
		return member{}, err
	}
	return member{item, r, needed}, nil
}

// hits are all spans of a text that its pattern is found at, with its number.
func (m member) hits(text string) ([]api.Hit, error) {
	spans, err := find.All(m.nodes, text)
	if err != nil {
		return nil, err
	}
	var out []api.Hit
	for _, span := range spans {
		out = append(out, api.Hit{ID: m.ID, Span: span})
	}
	return out, nil
}

// placesOf are the first places of a text at which what members need stands, -1 where it does not. What several of them
// need is looked for once.
func placesOf(members []member, text string) map[string]int {
	places := map[string]int{}
	for _, m := range members {
		if _, known := places[m.needed]; !known {
			places[m.needed] = strings.Index(text, m.needed)
		}
	}
	return places
}

package words

import (
	"slices"

	"winnowfan/api"
)

// knot of the net: it stands for what some words begin with, the root for nothing. So a text is gone through once,
// whatever the words have in common.
type knot struct {
	next map[byte]*knot // the knots of one byte more
	back *knot          // the knot of the longest with which this one ends, and that is shorter; the root has none
	ends []int          // the numbers of all words with which this one ends, rising
}

// netOf words that are checked: its root. All words grow by a byte at a time, so that the knots of what is shorter, to
// which a knot's back leads, are ready ahead of it.
func netOf(words []string) *knot {
	root := &knot{next: map[byte]*knot{}}
	at := slices.Repeat([]*knot{root}, len(words))
	for many := range api.MaxWord {
		for number, word := range words {
			if many < len(word) {
				at[number] = at[number].grow(word[many])
			}
			if many+1 == len(word) {
				at[number].end(number)
			}
		}
	}
	return root
}

// grow by a byte: the knot to which it leads, made where there is none.
func (k *knot) grow(b byte) *knot {
	if to := k.next[b]; to != nil {
		return to
	}
	back := k
	if k.back != nil {
		back = k.back.step(b)
	}
	to := &knot{map[byte]*knot{}, back, slices.Clone(back.ends)}
	k.next[b] = to
	return to
}

// end a word here.
func (k *knot) end(number int) {
	k.ends = append(k.ends, number)
	slices.Sort(k.ends)
}

// step behind a byte of a text: to the knot of the longest with which all that was read ends.
func (k *knot) step(b byte) *knot {
	for {
		if to := k.next[b]; to != nil {
			return to
		}
		if k.back == nil {
			return k
		}
		k = k.back
	}
}

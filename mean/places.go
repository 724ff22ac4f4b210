package mean

import (
	"math/bits"

	"winnowfan/api"
)

// A text has one place more than bytes.
const wordsInAll = api.MaxText/64 + 1

// places is a set of places of a text: bit p tells of place p.
type places struct{ words [wordsInAll]uint64 }

// when has a place, if so, and else none.
func when(so bool, at int) places {
	if !so {
		return places{}
	}
	return places{}.with(at)
}

func (s places) with(at int) places {
	s.words[at/64] |= 1 << (at % 64)
	return s
}

func (s places) has(at int) bool {
	return s.words[at/64]>>(at%64)&1 == 1
}

// joined has the places of both sets.
func (s places) joined(other places) places {
	for i, word := range other.words {
		s.words[i] |= word
	}
	return s
}

// rising goes through the places from the least on.
func (s places) rising(yield func(int) bool) {
	for i, word := range s.words {
		for ; word != 0; word &= word - 1 {
			if !yield(i*64 + bits.TrailingZeros64(word)) {
				return
			}
		}
	}
}

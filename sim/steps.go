package sim

import (
	"math/bits"

	"winnowfan/api"
)

const wordsInAll = (api.MaxSteps + 63) / 64

// Steps is a set of a program's steps: bit n tells of step n. Two of them are the same if == says so.
type Steps struct{ words [wordsInAll]uint64 }

// IsEmpty tells whether there is no step.
func (s Steps) IsEmpty() bool { return s == Steps{} }

func (s Steps) with(number int) Steps {
	s.words[number/64] |= 1 << (number % 64)
	return s
}

func (s Steps) has(number int) bool {
	return s.words[number/64]>>(number%64)&1 == 1
}

// rising goes through the steps from the least on.
func (s Steps) rising(yield func(int) bool) {
	for i, word := range s.words {
		for ; word != 0; word &= word - 1 {
			if !yield(i*64 + bits.TrailingZeros64(word)) {
				return
			}
		}
	}
}

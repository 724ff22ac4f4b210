package find

import (
	"errors"

	"winnowfan/api"
	"winnowfan/auto"
	"winnowfan/prog"
)

// finder of a pattern: the auto of its program, which keeps what it comes to know from one place for the next ones.
type finder struct{ *auto.Auto }

func finderOf(r []api.Node) (finder, error) {
	p, err := prog.Of(r)
	if err != nil {
		return finder{}, err
	}
	a, err := auto.New(p)
	if err != nil {
		return finder{}, err
	}
	return finder{a}, nil
}

// first span from a place of a text on: ErrFull and ErrRange as Longest tells them; ErrNone: there is none.
func (f finder) first(text string, from int) (api.Span, error) {
	for at := from; ; at++ {
		to, err := f.Longest(text, at)
		if err != nil {
			return api.Span{}, err
		}
		if to >= 0 {
			return api.Span{From: at, To: to}, nil
		}
		if at == len(text) {
			return api.Span{}, api.ErrNone
		}
	}
}

// all spans of a text, one behind the other: ErrFull as Longest tells it.
func (f finder) all(text string) ([]api.Span, error) {
	var found []api.Span
	for from := 0; from <= len(text); {
		span, err := f.first(text, from)
		if errors.Is(err, api.ErrNone) {
			break
		}
		if err != nil {
			return nil, err
		}
		found = append(found, span)
		from = behind(span)
	}
	return found, nil
}

// behind is where the next span may begin: an empty one would be found there again and again.
func behind(s api.Span) int {
	if s.From == s.To {
		return s.To + 1
	}
	return s.To
}

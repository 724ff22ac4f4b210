package syn

import (
	"slices"
	"strings"

	"winnowfan/api"
	"winnowfan/class"
)

const digits = "0123456789abcdef"

// misfit is what a reader panics with: the place at which a text turns out to be no pattern's.
type misfit struct{ place int }

// reader goes once through a text, and lays down the nodes of what it has read.
type reader struct {
	text  string
	place int
	nodes []api.Node
	stuck bool // a misfit is on its way up
}

func read(text string) (r []api.Node, place int, err error) {
	defer func() {
		thrown := recover()
		if thrown == nil {
			return
		}
		m, ok := thrown.(misfit)
		if !ok {
			panic(thrown) // a fault that is not the text's must not be told as one of it
		}
		r, place, err = nil, m.place, api.ErrSyntax
	}()
	p := reader{text: text}
	p.choice()
	if p.more() {
		panic(p.misfitAt(p.place))
	}
	return p.nodes, 0, nil
}

// choice reads chains with `|` between. All that is behind a `|` is the second part, so an Or leads to the right.
func (p *reader) choice() {
	from := len(p.nodes)
	p.chain()
	for p.skip('|') {
		p.wrap(from, api.Or)
		from = len(p.nodes)
		p.chain()
	}
}

// chain reads what stands one behind the other; it leads to the right as a choice does.
func (p *reader) chain() {
	if p.chainEnds() {
		p.put(api.Empty, api.Class{})
		return
	}
	from := len(p.nodes)
	p.repeated()
	for !p.chainEnds() {
		p.wrap(from, api.Cat)
		from = len(p.nodes)
		p.repeated()
	}
}

func (p *reader) chainEnds() bool {
	return !p.more() || p.sees('|') || p.sees(')')
}

func (p *reader) repeated() {
	from := len(p.nodes)
	p.single()
	for op := p.mark(); op != 0; op = p.mark() {
		p.wrap(from, op)
	}
}

// mark reads what tells how often a part is there; 0: nothing does.
func (p *reader) mark() int {
	switch {
	case p.skip('*'):
		return api.Star
	case p.skip('+'):
		return api.Plus
	case p.skip('?'):
		return api.Opt
	}
	return 0
}

func (p *reader) single() {
	switch {
	case p.skip('^'):
		p.put(api.Begin, api.Class{})
	case p.skip('$'):
		p.put(api.End, api.Class{})
	case p.skip('.'):
		p.put(api.Byte, class.Not(class.Of("\n")))
	case p.skip('['):
		p.put(api.Byte, p.items())
	case p.skip('('):
		p.group()
	default:
		p.put(api.Byte, class.Of(string([]byte{p.symbol()})))
	}
}

// group reads a part in brackets, from behind the first one on.
func (p *reader) group() {
	defer p.close(')')
	p.choice()
}

// items reads a class, from behind its first bracket on.
func (p *reader) items() api.Class {
	defer p.close(']')
	others := p.skip('^')
	var c api.Class
	for p.more() && !p.sees(']') {
		c = class.Either(c, p.item())
	}
	if others {
		return class.Not(c)
	}
	return c
}

func (p *reader) item() api.Class {
	from := p.place
	low := p.symbol()
	high := low
	if p.skip('-') {
		high = p.symbol()
	}
	c, err := class.Range(low, high)
	if err != nil {
		panic(p.misfitAt(from))
	}
	return c
}

// symbol reads a byte as package class writes it, or as `\x` and its digits, whichever byte it is.
func (p *reader) symbol() byte {
	from := p.place
	b := p.take()
	if b == '\\' {
		b = p.take()
		if b == 'x' {
			high := p.digit(from)
			return high*16 + p.digit(from)
		}
	}
	if class.Text(class.Of(string([]byte{b}))) != p.text[from:p.place] {
		panic(p.misfitAt(from))
	}
	return b
}

// digit reads a digit of the symbol that begins at from.
func (p *reader) digit(from int) byte {
	worth := strings.IndexByte(digits, p.take())
	if worth < 0 {
		panic(p.misfitAt(from))
	}
	return byte(worth)
}

// close runs on the way up of a misfit, too: that one came first, and must stay the one that is told.
func (p *reader) close(bracket byte) {
	if !p.stuck && !p.skip(bracket) {
		panic(p.misfitAt(p.place))
	}
}

func (p *reader) misfitAt(place int) misfit {
	p.stuck = true
	return misfit{place}
}

func (p *reader) more() bool {
	return p.place < len(p.text)
}

func (p *reader) sees(b byte) bool {
	return p.more() && p.text[p.place] == b
}

// skip goes over a byte, if it is b.
func (p *reader) skip(b byte) bool {
	if !p.sees(b) {
		return false
	}
	p.place++
	return true
}

// take goes over a byte, whichever it is; where there is none, the text ends too early.
func (p *reader) take() byte {
	if !p.more() {
		panic(p.misfitAt(p.place))
	}
	p.place++
	return p.text[p.place-1]
}

func (p *reader) put(op int, c api.Class) {
	p.nodes = append(p.nodes, api.Node{Op: op, Class: c})
}

// wrap makes what was laid down from a node on the part of another one.
func (p *reader) wrap(from, op int) {
	p.nodes = slices.Insert(p.nodes, from, api.Node{Op: op})
}

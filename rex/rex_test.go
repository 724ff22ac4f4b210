package rex

import (
	"math"
	"slices"
	"testing"

	"winnowfan/api"
	"winnowfan/plain"
)

// tree is a pattern as its parts, so that no test leans on counting nodes.
type tree struct {
	node api.Node
	kids []*tree
	from int // the node at which it begins
	to   int // the place behind it
}

// kidsOf is a list written out, beside the program's rule.
var kidsOf = map[int]int{1: 0, 2: 0, 3: 2, 4: 2, 5: 1, 6: 1, 7: 1, 8: 0, 9: 0}

// grow reads the tree that begins at a node; nil, if nodes are missing.
func grow(r []api.Node, from int) *tree {
	if from >= len(r) {
		return nil
	}
	x := &tree{node: r[from], from: from, to: from + 1}
	for range kidsOf[r[from].Op] {
		kid := grow(r, x.to)
		if kid == nil {
			return nil
		}
		x.kids, x.to = append(x.kids, kid), kid.to
	}
	return x
}

// flat is a tree as nodes again.
func (x *tree) flat() []api.Node {
	out := []api.Node{x.node}
	for _, kid := range x.kids {
		out = append(out, kid.flat()...)
	}
	return out
}

// turned is R2's Turn, on a tree.
func (x *tree) turned() *tree {
	y := &tree{node: x.node}
	for _, kid := range x.kids {
		y.kids = append(y.kids, kid.turned())
	}
	switch x.node.Op {
	case api.Cat:
		slices.Reverse(y.kids)
	case api.Begin:
		y.node.Op = api.End
	case api.End:
		y.node.Op = api.Begin
	}
	return y
}

// nothing is R2's Empty, on a tree.
func (x *tree) nothing() bool {
	many := 0
	for _, kid := range x.kids {
		if kid.nothing() {
			many++
		}
	}
	switch x.node.Op {
	case api.Byte:
		return false
	case api.Cat:
		return many == 2
	case api.Or, api.Plus:
		return many > 0
	}
	return true
}

func (x *tree) walk(do func(*tree)) {
	do(x)
	for _, kid := range x.kids {
		kid.walk(do)
	}
}

// ops makes nodes of Ops; each Byte has a class of its own, so that a mix-up is seen.
func ops(list ...int) []api.Node {
	var r []api.Node
	for i, op := range list {
		node := api.Node{Op: op}
		if op == api.Byte {
			node.Class = api.Class{uint64(i) + 1, 0, uint64(i) << 40, 0}
		}
		r = append(r, node)
	}
	return r
}

// repeat is a list of Ops with one Op many times ahead.
func repeat(many, op int, behind ...int) []int {
	var list []int
	for range many {
		list = append(list, op)
	}
	return append(list, behind...)
}

// everyList calls do with every list of Ops from 1 to 9 of a length.
func everyList(length int, do func([]api.Node)) {
	list := make([]int, length)
	var fill func(int)
	fill = func(i int) {
		if i == length {
			do(ops(list...))
			return
		}
		for op := 1; op <= 9; op++ {
			list[i] = op
			fill(i + 1)
		}
	}
	fill(0)
}

// great are patterns of as many nodes as there may be, and one less.
func great() [][]api.Node {
	var leftCats, rightCats, ors []int
	leftCats = repeat(29, api.Cat)
	for i := range 30 {
		leftCats = append(leftCats, []int{api.Byte, api.Begin, api.End}[i%3])
	}
	for range 29 {
		rightCats = append(rightCats, api.Cat, api.Byte)
		ors = append(ors, api.Or, api.End)
	}
	rightCats, ors = append(rightCats, api.Opt, api.End), append(ors, api.Plus, api.Byte)
	return [][]api.Node{
		ops(repeat(59, api.Star, api.Byte)...), ops(repeat(59, api.Plus, api.Byte)...), ops(repeat(59, api.Plus, api.End)...),
		ops(leftCats...), ops(append([]int{api.Plus}, leftCats...)...), ops(rightCats...), ops(ors...),
	}
}

// asked holds all calls on a pattern against its tree.
func asked(t *testing.T, r []api.Node) {
	t.Helper()
	before := slices.Clone(r)
	x := grow(r, 0)
	if x == nil || x.to != len(r) {
		refused(t, r, api.ErrShape)
		return
	}
	if err := Check(r); err != nil {
		t.Errorf("Check(%v): got %v", r, err)
	}
	x.walk(func(y *tree) {
		if got, err := End(r, y.from); got != y.to || err != nil {
			t.Errorf("End(%v, %d): got %d %v, want %d", r, y.from, got, err, y.to)
		}
	})
	if got, err := Empty(r); got != x.nothing() || err != nil {
		t.Errorf("Empty(%v): got %v %v, want %v", r, got, err, x.nothing())
	}
	if got, err := Turn(r); !slices.Equal(got, x.turned().flat()) || err != nil {
		t.Errorf("Turn(%v): got %v %v, want %v", r, got, err, x.turned().flat())
	}
	if !slices.Equal(r, before) {
		t.Errorf("%v became %v", before, r)
	}
}

// refused holds all calls on what is no pattern against one error; with it, every other result is zero.
func refused(t *testing.T, r []api.Node, want api.Errno) {
	t.Helper()
	if got := plain.Told(Check(r)); got != want {
		t.Errorf("Check(%v): got %v, want %v", r, got, want)
	}
	for _, i := range []int{math.MinInt, -1, 0, len(r) - 1, len(r), math.MaxInt} {
		if end, err := End(r, i); end != 0 || plain.Told(err) != want {
			t.Errorf("End(%v, %d): got %d %v, want %v", r, i, end, err, want)
		}
	}
	if may, err := Empty(r); may || plain.Told(err) != want {
		t.Errorf("Empty(%v): got %v %v, want %v", r, may, err, want)
	}
	if turned, err := Turn(r); turned != nil || plain.Told(err) != want {
		t.Errorf("Turn(%v): got %v %v, want %v", r, turned, err, want)
	}
}

// R1, R2: every list of few Ops, whether it is a pattern or not.
func TestEveryShortList(t *testing.T) {
	for length := range 6 {
		everyList(length, func(r []api.Node) { asked(t, r) })
	}
	asked(t, nil)
	asked(t, []api.Node{})
}

// R1, R2: patterns as great as they may be, and what is missing or too much of them.
func TestGreatPatterns(t *testing.T) {
	for _, r := range great() {
		asked(t, r)
		for i := range r {
			asked(t, r[:i])
			asked(t, r[i:])
		}
		if len(r) < api.MaxNodes {
			refused(t, append(slices.Clone(r), api.Node{Op: api.Empty}), api.ErrShape)
		}
	}
}

// R1: 60 nodes may be, 61 are ErrFull, whatever else is wrong.
func TestFull(t *testing.T) {
	asked(t, ops(repeat(59, api.Opt, api.Empty)...))
	refused(t, ops(repeat(60, api.Opt, api.Empty)...), api.ErrFull)
	refused(t, ops(repeat(60, 0, 10)...), api.ErrFull)
	refused(t, make([]api.Node, 100000), api.ErrFull)
	wrong := ops(repeat(61, api.Star)...)
	wrong[0].Class[0] = 1
	refused(t, wrong, api.ErrFull)
	refused(t, ops(repeat(60, api.Star)...), api.ErrShape)
}

// R1: an Op from 1 to 9 alone.
func TestOpIsNone(t *testing.T) {
	for _, op := range []int{0, 10, 11, -1, -9, 255, 257, 1 << 32, 1<<32 + 1, math.MinInt, math.MaxInt} {
		refused(t, []api.Node{{Op: op}}, api.ErrRange)
		refused(t, []api.Node{{Op: op, Class: api.Class{1}}}, api.ErrRange)
		refused(t, ops(api.Cat, op, api.Empty), api.ErrRange)
		refused(t, ops(api.Cat, api.Empty, op), api.ErrRange)
		refused(t, ops(api.Empty, op), api.ErrRange) // behind the pattern, too
		refused(t, ops(api.Cat, op), api.ErrRange)   // and where one is missing
	}
}

// R1: a Byte alone has a class, and it may be that of no byte.
func TestClassOfNoByte(t *testing.T) {
	for op := 1; op <= 9; op++ {
		for word := range 4 {
			for _, bit := range []int{0, 31, 32, 63} {
				r := ops(op)
				for range kidsOf[op] {
					r = append(r, api.Node{Op: api.Empty})
				}
				r[0].Class = api.Class{}
				asked(t, r)
				r[0].Class[word] = 1 << bit
				if op == api.Byte {
					asked(t, r)
				} else {
					refused(t, r, api.ErrShape)
				}
			}
		}
	}
	asked(t, []api.Node{{Op: api.Byte, Class: api.Class{^uint64(0), ^uint64(0), ^uint64(0), ^uint64(0)}}})
}

// R1: node by node: what is wrong with one comes ahead of what is wrong with the next, the whole comes last.
func TestNodeByNode(t *testing.T) {
	none := api.Node{Op: 10}
	classed := api.Node{Op: api.Empty, Class: api.Class{0, 1}}
	both := api.Node{Op: 0, Class: api.Class{0, 1}}
	fine := api.Node{Op: api.Empty}
	for _, x := range []struct {
		r    []api.Node
		want api.Errno
	}{
		{[]api.Node{none, classed}, api.ErrRange},
		{[]api.Node{classed, none}, api.ErrShape},
		{[]api.Node{both}, api.ErrRange},
		{[]api.Node{classed, both}, api.ErrShape},
		{[]api.Node{fine, fine, none}, api.ErrRange},
		{[]api.Node{fine, fine, classed, none}, api.ErrShape},
		{[]api.Node{fine, fine}, api.ErrShape},
	} {
		refused(t, x.r, x.want)
	}
}

// R1: a place at which no node is, is ErrRange, once the pattern is one.
func TestEndOfNoNode(t *testing.T) {
	r := ops(api.Cat, api.Or, api.Byte, api.Empty, api.Star, api.End)
	for i, want := range []int{6, 4, 3, 4, 6, 6} {
		if got, err := End(r, i); got != want || err != nil {
			t.Errorf("End at %d: got %d %v, want %d", i, got, err, want)
		}
	}
	for _, i := range []int{math.MinInt, -7, -1, 6, 7, 60, math.MaxInt} {
		if got, err := End(r, i); got != 0 || plain.Told(err) != api.ErrRange {
			t.Errorf("End at %d: got %d %v, want ErrRange", i, got, err)
		}
	}
}

// R2: what may be nothing, by hand.
func TestEmpty(t *testing.T) {
	for _, x := range []struct {
		r    []api.Node
		want bool
	}{
		{ops(api.Byte), false},
		{[]api.Node{{Op: api.Byte}}, false},
		{ops(api.Empty), true},
		{ops(api.Begin), true},
		{ops(api.End), true},
		{ops(api.Star, api.Byte), true},
		{ops(api.Opt, api.Byte), true},
		{ops(api.Plus, api.Byte), false},
		{ops(api.Plus, api.End), true},
		{ops(api.Plus, api.Star, api.Byte), true},
		{ops(api.Cat, api.End, api.Begin), true},
		{ops(api.Cat, api.Byte, api.Empty), false},
		{ops(api.Cat, api.Empty, api.Byte), false},
		{ops(api.Or, api.Byte, api.Empty), true},
		{ops(api.Or, api.Empty, api.Byte), true},
		{ops(api.Or, api.Byte, api.Byte), false},
		{ops(api.Cat, api.Or, api.Byte, api.Begin, api.Opt, api.Byte), true},
	} {
		if got, err := Empty(x.r); got != x.want || err != nil {
			t.Errorf("Empty(%v): got %v %v, want %v", x.r, got, err, x.want)
		}
	}
}

// R2: turned patterns, by hand: bytes keep their classes, parts of an Or their order.
func TestTurn(t *testing.T) {
	a, b, c := api.Node{Op: 1, Class: api.Class{1}}, api.Node{Op: 1, Class: api.Class{0, 0, 0, 1}}, api.Node{Op: 1}
	cat, or, star := api.Node{Op: api.Cat}, api.Node{Op: api.Or}, api.Node{Op: api.Star}
	begin, end := api.Node{Op: api.Begin}, api.Node{Op: api.End}
	for _, x := range []struct{ r, want []api.Node }{
		{[]api.Node{a}, []api.Node{a}},
		{[]api.Node{begin}, []api.Node{end}},
		{[]api.Node{end}, []api.Node{begin}},
		{[]api.Node{cat, a, b}, []api.Node{cat, b, a}},
		{[]api.Node{or, a, b}, []api.Node{or, a, b}},
		{[]api.Node{or, begin, end}, []api.Node{or, end, begin}},
		{[]api.Node{cat, begin, end}, []api.Node{cat, begin, end}},
		{[]api.Node{cat, a, cat, b, c}, []api.Node{cat, cat, c, b, a}},
		{[]api.Node{cat, cat, a, b, c}, []api.Node{cat, c, cat, b, a}},
		{[]api.Node{star, cat, or, a, b, end}, []api.Node{star, cat, begin, or, a, b}},
	} {
		if got, err := Turn(x.r); !slices.Equal(got, x.want) || err != nil {
			t.Errorf("Turn(%v): got %v %v, want %v", x.r, got, err, x.want)
		}
	}
}

// R2, P2: what is turned is fresh memory; turned again it is what it was; it may be nothing as before.
func TestTurnTwice(t *testing.T) {
	for _, r := range append(great(), ops(api.Empty), ops(api.Or, api.Byte, api.Begin)) {
		before := slices.Clone(r)
		once, _ := Turn(r)
		twice, err := Turn(once)
		if !slices.Equal(twice, before) || err != nil {
			t.Errorf("turned twice, %v is %v %v", before, twice, err)
		}
		was, _ := Empty(r)
		is, _ := Empty(once)
		if was != is {
			t.Errorf("Empty of %v: %v, turned %v", r, was, is)
		}
		for i := range once {
			once[i].Op = 0
		}
		if !slices.Equal(r, before) || !slices.Equal(twice, before) {
			t.Errorf("%v shares memory with what is turned", before)
		}
	}
}

// P4: what lies behind a list's length is neither read nor written.
func TestBehindTheLength(t *testing.T) {
	all := ops(api.Cat, api.Byte, api.Empty, api.End, api.Begin)
	before := slices.Clone(all)
	refused(t, all[:2], api.ErrShape)
	asked(t, all[:3])
	asked(t, all[3:4])
	if !slices.Equal(all, before) {
		t.Errorf("%v became %v", before, all)
	}
}

package lit

import (
	"math"
	"slices"
	"strings"
	"testing"

	"winnowfan/api"
	"winnowfan/class"
	"winnowfan/mean"
	"winnowfan/plain"
	"winnowfan/rex"
	"winnowfan/syn"
)

// Nodes, so that patterns can be written in a line.
func bytesOf(letters string) api.Node { return api.Node{Op: api.Byte, Class: class.Of(letters)} }

var (
	a     = bytesOf("a")
	b     = bytesOf("b")
	ab    = bytesOf("ab")
	none  = api.Node{Op: api.Byte}
	empty = api.Node{Op: api.Empty}
	cat   = api.Node{Op: api.Cat}
	or    = api.Node{Op: api.Or}
	star  = api.Node{Op: api.Star}
	plus  = api.Node{Op: api.Plus}
	opt   = api.Node{Op: api.Opt}
	begin = api.Node{Op: api.Begin}
	end   = api.Node{Op: api.End}
)

// parsed is the pattern of a text.
func parsed(t *testing.T, pattern string) []api.Node {
	t.Helper()
	r, _, err := syn.Parse(pattern)
	if err != nil {
		t.Fatalf("Parse(%s): %v", pattern, err)
	}
	return r
}

// asked holds both calls on a pattern against what they have to tell; nothing is told of a whole that is not.
func asked(t *testing.T, r []api.Node, whole string, isWhole bool, needed string) {
	t.Helper()
	before := slices.Clone(r)
	if got, is, err := Whole(r); got != whole || is != isWhole || err != nil {
		t.Errorf("Whole(%v): got %q %v %v, want %q %v", r, got, is, err, whole, isWhole)
	}
	if got, err := Needed(r); got != needed || err != nil {
		t.Errorf("Needed(%v): got %q %v, want %q", r, got, err, needed)
	}
	if !slices.Equal(r, before) {
		t.Errorf("%v became %v", before, r)
	}
}

// refused holds both calls against an error; with it, all else is zero.
func refused(t *testing.T, r []api.Node, want api.Errno) {
	t.Helper()
	if got, is, err := Whole(r); got != "" || is || plain.Told(err) != want {
		t.Errorf("Whole of %d nodes: got %q %v %v, want %v", len(r), got, is, err, want)
	}
	if got, err := Needed(r); got != "" || plain.Told(err) != want {
		t.Errorf("Needed of %d nodes: got %q %v, want %v", len(r), got, err, want)
	}
}

// L1: patterns that have a whole, which is what they need, too.
func TestWhole(t *testing.T) {
	for _, x := range []struct{ pattern, whole string }{
		{"", ""},
		{"()", ""},
		{"a", "a"},
		{"[a]", "a"},
		{"[a-a]", "a"},
		{"[aa]", "a"},
		{"ab", "ab"},
		{"ba", "ba"}, // as they stand, not as their bytes rise
		{"aab", "aab"},
		{"(ab)(cd)", "abcd"},
		{"((ab)c)d", "abcd"},
		{"a()", "a"},
		{"()a", "a"},
		{"()()", ""},
		{"a()b()()c", "abc"},
		{"many patterns, one text", "many patterns, one text"},
		{`\.\[\]\(\)\|\*\+\?\^\$\-\\`, `.[]()|*+?^$-\`}, // bytes, not how they are written
		{`\x00\x0a\x7f\x80\xfe\xff`, "\x00\n\x7f\x80\xfe\xff"},
		{`[^\x00-\x60\x62-\xff]`, "a"},
		{`[^\x00-\xfe]`, "\xff"},
		{`[^\x01-\xff]`, "\x00"},
		{`\xc3\xa9`, "é"},
	} {
		asked(t, parsed(t, x.pattern), x.whole, true, x.whole)
	}
}

// L1: patterns that have none, and what they need.
func TestNeeded(t *testing.T) {
	for _, x := range []struct{ pattern, needed string }{
		// a Byte of none or of more than one byte
		{"[]", ""}, {"[ab]", ""}, {".", ""}, {"[^a]", ""}, {`[\x00-\xff]`, ""}, {`[^]`, ""}, {`[\x00\x01]`, ""}, {`[\xfe\xff]`, ""},
		// the others, also where they fit one text alone
		{"a|a", ""}, {"a|b", ""}, {"|", ""}, {"a|", ""}, {"ab|ab", ""}, {"abc|abd", ""}, {"(a)+|a", ""},
		{"a*", ""}, {"(ab)*", ""}, {"()*", ""}, {"(a+)*", ""},
		{"a?", ""}, {"(ab)?", ""}, {"()?", ""}, {"(a+)?", ""},
		{"^", ""}, {"$", ""}, {"^$", ""},
		// a Plus
		{"a+", "a"}, {"(ab)+", "ab"}, {"(ab+)+", "a"}, {"()+", ""}, {"a++", "a"}, {"(a*)+", ""}, {"(a?)+", ""}, {"(a|a)+", ""},
		{"(ab|ab)+", ""}, {"^+", ""}, {"(x*ab)+", "ab"}, {"[ab]+", ""}, {"((ab)+)+", "ab"}, {"((ab)+c*)+", "ab"},
		// a Cat: the longer one
		{"a[xy]", "a"}, {"[xy]a", "a"}, {"(ab).c", "ab"}, {"a.(bc)", "bc"}, {".*abc", "abc"}, {"(abc).*", "abc"},
		{"^a", "a"}, {"a$", "a"}, {"^abc", "abc"}, {"(abc)$", "abc"}, {"a*b", "b"}, {"a?b", "b"}, {"(a|b)c", "c"}, {"(a|b)*", ""},
		{"(ab)+[xy]*end", "end"}, {"(ab)+c", "ab"}, {"c(ab)+", "ab"}, {"(abc)+(de)", "abc"}, {"[]abc", "abc"}, {"a[]", "a"},
		// the first one, if it is as long
		{"a.b", "a"}, {"a*b.c", "b"}, {"(ab).*(cd)", "ab"}, {"(ab)+(cd)+", "ab"}, {"b+a+", "b"}, {"x*(ab|c)(de)+fg", "de"},
		{"(a+b+)c+", "a"}, {"a+(b+c+)", "a"},
		// a whole of each part alone, of two parts one behind the other, but never across two Cats
		{"()a+", "a"}, {"a+()", "a"}, {"()[ab]", ""}, {"[ab]()", ""},
		{"end$", "e"}, {"(end)$", "end"}, {"abc.", "a"}, {"(ab)(c.)", "ab"}, {"a(bc.)", "a"}, {"a((bc).)", "bc"}, {"a(bc)$", "bc"},
		{"((^a)b)c", "a"}, {"(.(ab))c", "ab"}, {".abc+", "a"}, {".(abc)+", "abc"},
		// bytes, not how they are written, nor letters
		{`.\.\*`, ".*"}, {`[^\x00-\xfe]+`, "\xff"}, {`\x00+.*`, "\x00"}, {`.*\xc3\xa9`, "é"}, {`.(\xc3\xa9)(ab)`, "éab"},
		{`(\x80\x81)+(\xc3\xa9)`, "\x80\x81"}, {`(abc)+(\xc3\xa9)`, "abc"}, {`a+(\xc3\xa9)`, "é"}, {`(\xc3\xa9)+(ab)`, "é"},
	} {
		asked(t, parsed(t, x.pattern), "", false, x.needed)
	}
}

// L1: a Byte has a whole if its class has one byte, whichever that is.
func TestEachByte(t *testing.T) {
	for i := range 256 {
		one := string([]byte{byte(i)})
		alone := api.Class{}
		alone[i/64] = 1 << (i % 64)
		asked(t, []api.Node{{Op: api.Byte, Class: alone}}, one, true, one)
		asked(t, []api.Node{plus, {Op: api.Byte, Class: alone}}, "", false, one)
		for _, other := range []int{0, 63, 64, 127, 128, 191, 192, 255} {
			if other == i {
				continue
			}
			both := alone
			both[other/64] |= 1 << (other % 64)
			asked(t, []api.Node{{Op: api.Byte, Class: both}}, "", false, "")
		}
		but := api.Class{}
		for word := range but {
			but[word] = ^alone[word]
		}
		asked(t, []api.Node{{Op: api.Byte, Class: but}}, "", false, "")
	}
	asked(t, []api.Node{none}, "", false, "")
}

// wholeOf is what Whole has to tell, another way than the program's: nothing but Cats, Empties and Bytes of one byte, and
// then what these have, as they stand.
func wholeOf(r []api.Node) (string, bool) {
	var out []byte
	for _, node := range r {
		switch node.Op {
		case api.Cat, api.Empty:
		case api.Byte:
			if class.Many(node.Class) != 1 {
				return "", false
			}
			for i := range 256 {
				if class.Has(node.Class, byte(i)) {
					out = append(out, byte(i))
				}
			}
		default:
			return "", false
		}
	}
	return string(out), true
}

// neededOf is what Needed has to tell, another way than the program's: from the last node on, with what is needed of the
// parts that no node has taken yet.
func neededOf(r []api.Node) string {
	type part struct {
		needed string
		end    int
	}
	var waiting []part
	take := func() part {
		last := waiting[len(waiting)-1]
		waiting = waiting[:len(waiting)-1]
		return last
	}
	for i := len(r) - 1; i >= 0; i-- {
		now := part{end: i + 1}
		switch r[i].Op {
		case api.Cat:
			first, second := take(), take()
			now = part{first.needed, second.end}
			if len(second.needed) > len(first.needed) {
				now.needed = second.needed
			}
		case api.Or:
			take()
			now.end = take().end
		case api.Plus:
			now = take()
		case api.Star, api.Opt:
			now.end = take().end
		}
		if whole, is := wholeOf(r[i:now.end]); is {
			now.needed = whole
		}
		waiting = append(waiting, now)
	}
	return waiting[0].needed
}

// patterns are all patterns of so many nodes, with some classes.
func patterns(many int) [][]api.Node {
	if many == 1 {
		return [][]api.Node{{a}, {b}, {ab}, {none}, {empty}, {begin}, {end}}
	}
	var out [][]api.Node
	for _, part := range patterns(many - 1) {
		for _, over := range []api.Node{star, plus, opt} {
			out = append(out, slices.Concat([]api.Node{over}, part))
		}
	}
	for left := 1; left < many-1; left++ {
		for _, first := range patterns(left) {
			for _, second := range patterns(many - 1 - left) {
				out = append(out, slices.Concat([]api.Node{cat}, first, second), slices.Concat([]api.Node{or}, first, second))
			}
		}
	}
	return out
}

// askedAnotherWay holds both calls on a pattern against the other way.
func askedAnotherWay(t *testing.T, r []api.Node) {
	t.Helper()
	whole, isWhole := wholeOf(r)
	asked(t, r, whole, isWhole, neededOf(r))
}

// L1: every pattern of few nodes.
func TestEveryShortPattern(t *testing.T) {
	for many := 1; many <= 5; many++ {
		for _, r := range patterns(many) {
			askedAnotherWay(t, r)
		}
	}
}

// mixed are patterns of at most so many nodes, told by numbers that come one of the other: mostly Cats and Bytes.
func mixed(most, many int) [][]api.Node {
	number := uint32(1)
	next := func(below int) int {
		number = number*1664525 + 1013904223
		return int(number>>8) % below
	}
	leaves := []api.Node{a, b, bytesOf("c"), bytesOf("\xff"), empty, ab, end}
	overs := []api.Node{plus, plus, star, opt}
	var grow func(room int) []api.Node
	grow = func(room int) []api.Node {
		switch kind := next(8); {
		case room < 3:
			return []api.Node{leaves[next(len(leaves))]}
		case kind == 0:
			return append([]api.Node{overs[next(len(overs))]}, grow(room-1)...)
		case kind == 1 && room < 8:
			first := grow(room / 2)
			return slices.Concat([]api.Node{or}, first, grow(room-1-len(first)))
		}
		first := grow(1 + next(room-2))
		return slices.Concat([]api.Node{cat}, first, grow(room-1-len(first)))
	}
	var out [][]api.Node
	for range many {
		out = append(out, grow(most))
	}
	return out
}

// L1: patterns of many nodes.
func TestMixedPatterns(t *testing.T) {
	for _, most := range []int{7, 15, 30, api.MaxNodes} {
		for _, r := range mixed(most, 3000) {
			askedAnotherWay(t, r)
		}
	}
}

// texts are all texts of a and b of at most so many bytes.
func texts(most int) []string {
	out := []string{""}
	for i := 0; i < len(out) && len(out[i]) < most; i++ {
		out = append(out, out[i]+"a", out[i]+"b")
	}
	return out
}

// L1, M1: what is needed stands in all that a pattern fits, wherever that is, and a whole is fitted, and nothing else.
func TestWhatItSays(t *testing.T) {
	all := mixed(12, 300)
	for many := 1; many <= 4; many++ {
		all = append(all, patterns(many)...)
	}
	for _, r := range all {
		needed, err := Needed(r)
		if err != nil {
			t.Fatalf("Needed(%v): %v", r, err)
		}
		whole, isWhole, _ := Whole(r)
		for _, text := range append(texts(4), whole, needed, "abcabc", "a"+whole+"b") {
			for from := range len(text) + 1 {
				ends, err := mean.Ends(r, text, from)
				if err != nil {
					t.Fatalf("mean.Ends(%v, %q, %d): %v", r, text, from, err)
				}
				for _, to := range ends {
					if !strings.Contains(text[from:to], needed) {
						t.Errorf("%v needs %q, and fits %q", r, needed, text[from:to])
					}
				}
				isThere := strings.HasPrefix(text[from:], whole)
				if isWhole && (slices.Contains(ends, from+len(whole)) != isThere || len(ends) > 1) {
					t.Errorf("%v has the whole %q, and fits %q from %d to %v", r, whole, text, from, ends)
				}
			}
		}
	}
}

// L1, R2: the whole of what is turned is the whole backwards; as long as before is what it needs.
func TestTurned(t *testing.T) {
	for _, r := range mixed(20, 1000) {
		turned, _ := rex.Turn(r)
		whole, isWhole, _ := Whole(r)
		needed, _ := Needed(r)
		back := []byte(whole)
		slices.Reverse(back)
		if got, is, err := Whole(turned); got != string(back) || is != isWhole || err != nil {
			t.Errorf("Whole of %v turned: got %q %v %v", r, got, is, err)
		}
		if got, err := Needed(turned); len(got) != len(needed) || err != nil {
			t.Errorf("Needed of %v turned: got %q %v, before %q", r, got, err, needed)
		}
	}
}

// L1: patterns of as many nodes as there may be.
func TestGreatPatterns(t *testing.T) {
	left := slices.Repeat([]api.Node{cat}, 29)
	var right []api.Node
	var text []byte
	for i := range 30 {
		one := byte('a' + i%26)
		node := bytesOf(string([]byte{one}))
		left = append(left, node)
		right = append(right, cat, node)
		text = append(text, one)
	}
	right[58] = right[59] // the last one stands behind no Cat
	right = right[:59]
	whole := string(text)
	asked(t, left, whole, true, whole)
	asked(t, right, whole, true, whole)
	asked(t, append([]api.Node{plus}, left...), "", false, whole)
	asked(t, append([]api.Node{plus}, right...), "", false, whole)
	asked(t, append([]api.Node{opt}, right...), "", false, "")
	asked(t, append(slices.Repeat([]api.Node{plus}, api.MaxNodes-1), a), "", false, "a")
	asked(t, append(slices.Repeat([]api.Node{plus}, api.MaxNodes-1), empty), "", false, "")
	asked(t, append(slices.Repeat([]api.Node{star}, api.MaxNodes-1), a), "", false, "")
	asked(t, slices.Concat(slices.Repeat([]api.Node{cat}, 29), slices.Repeat([]api.Node{empty}, 30)), "", true, "")
	asked(t, slices.Concat(slices.Repeat([]api.Node{cat}, 29), slices.Repeat([]api.Node{begin}, 30)), "", false, "")
	asked(t, slices.Concat(slices.Repeat([]api.Node{cat}, 29), slices.Repeat([]api.Node{a}, 29), []api.Node{end}), "", false, strings.Repeat("a", 29))
}

// L1: what is no pattern is told as chapter 2 tells it.
func TestNoPattern(t *testing.T) {
	classed := api.Node{Op: api.Empty, Class: class.Of("a")}
	for _, x := range []struct {
		r    []api.Node
		want api.Errno
	}{
		{nil, api.ErrShape},
		{[]api.Node{}, api.ErrShape},
		{[]api.Node{{}}, api.ErrRange},
		{[]api.Node{{Op: 10}}, api.ErrRange},
		{[]api.Node{{Op: -1}}, api.ErrRange},
		{[]api.Node{{Op: math.MinInt}}, api.ErrRange},
		{[]api.Node{{Op: math.MaxInt}}, api.ErrRange},
		{[]api.Node{{Op: 10, Class: class.Of("a")}}, api.ErrRange},
		{[]api.Node{cat, a, {Op: 10}}, api.ErrRange},
		{[]api.Node{a, {Op: 10}}, api.ErrRange}, // also behind the pattern
		{[]api.Node{classed}, api.ErrShape},
		{[]api.Node{classed, {Op: 10}}, api.ErrShape},
		{[]api.Node{{Op: 10}, classed}, api.ErrRange},
		{[]api.Node{cat, a}, api.ErrShape},
		{[]api.Node{cat}, api.ErrShape},
		{[]api.Node{plus}, api.ErrShape},
		{[]api.Node{a, a}, api.ErrShape},
		{[]api.Node{cat, a, b, a}, api.ErrShape},
		{slices.Repeat([]api.Node{opt}, api.MaxNodes), api.ErrShape},
		{append(slices.Repeat([]api.Node{opt}, api.MaxNodes), a), api.ErrFull},
		{make([]api.Node, api.MaxNodes+1), api.ErrFull},
		{make([]api.Node, 100000), api.ErrFull},
	} {
		refused(t, x.r, x.want)
	}
}

// P2, P4: nothing is kept from call to call, and what lies behind a length is not read.
func TestFreshMemory(t *testing.T) {
	all := []api.Node{cat, a, b, {Op: 99}, begin}
	before := slices.Clone(all)
	refused(t, all[:2], api.ErrShape)
	asked(t, all[:3], "ab", true, "ab")
	asked(t, all[1:2], "a", true, "a")
	if !slices.Equal(all, before) {
		t.Errorf("%v became %v", before, all)
	}
	got, _, _ := Whole(all[:3])
	all[1] = b
	asked(t, all[:3], "bb", true, "bb")
	if got != "ab" {
		t.Errorf("what was told became %q", got)
	}
}

package feed

import (
	"math"
	"slices"
	"strings"
	"testing"

	"winnowfan/api"
	"winnowfan/class"
	"winnowfan/mean"
	"winnowfan/plain"
	"winnowfan/rex"
	"winnowfan/syn"
)

// parsed is the pattern of a text.
func parsed(t *testing.T, pattern string) []api.Node {
	t.Helper()
	r, _, err := syn.Parse(pattern)
	if err != nil {
		t.Fatalf("Parse(%s): %v", pattern, err)
	}
	return r
}

// made is a feed of a pattern that is one; its text is empty.
func made(t *testing.T, r []api.Node) *Feed {
	t.Helper()
	before := slices.Clone(r)
	f, err := New(r)
	if f == nil || err != nil {
		t.Fatalf("New(%v): got %v %v", r, f, err)
	}
	if f.Len() != 0 {
		t.Errorf("New(%v): its text has %d bytes", r, f.Len())
	}
	if !slices.Equal(r, before) {
		t.Errorf("%v became %v", before, r)
	}
	return f
}

// put holds Put of some pieces against that nothing is wrong.
func put(t *testing.T, f *Feed, pieces ...string) {
	t.Helper()
	for _, piece := range pieces {
		if err := f.Put(piece); err != nil {
			t.Errorf("Put(%d bytes) behind %d: got %v", len(piece), f.Len(), err)
		}
	}
}

// refused holds Put of a piece that is too long against its error.
func refused(t *testing.T, f *Feed, many int) {
	t.Helper()
	if err := f.Put(strings.Repeat("a", many)); plain.Told(err) != api.ErrFull {
		t.Errorf("Put(%d bytes) behind %d: got %v", many, f.Len(), err)
	}
}

// tells holds what a feed tells against what it has to tell, twice, as asking changes nothing.
func tells(t *testing.T, f *Feed, yes, dead bool, many int) {
	t.Helper()
	for range 2 {
		if f.Yes() != yes || f.Dead() != dead || f.Len() != many {
			t.Errorf("got Yes %v, Dead %v, Len %d, want %v, %v, %d", f.Yes(), f.Dead(), f.Len(), yes, dead, many)
		}
	}
}

// E1: what is told, written out by hand: y where the pattern fits all of the text, d where it fits none that begins with
// it, - where neither is so; for the empty text, and with each byte more.
func TestTold(t *testing.T) {
	for _, x := range []struct{ pattern, text, want string }{
		{"a", "aa", "-yd"},
		{"a", "ba", "-dd"},
		{"", "aa", "ydd"},
		{"a*", "aaba", "yyydd"},
		{"a+", "aaba", "-yydd"},
		{"(ab)*", "ababb", "y-y-yd"},
		{"abc|ad", "adx", "--yd"},
		{"abc|ad", "abcd", "---yd"},
		{"a|ab|abcd", "abcd", "-yy-y"},
		{".*b", "abab\nb", "--y-ydd"},
		{"(a|ab)(c|bcd)", "abcde", "---yyd"},
		// where the text begins, and where it ends: as long as nothing more is put
		{"^", "a", "yd"},
		{"$", "a", "yd"},
		{"^$", "a", "yd"},
		{"$^", "a", "yd"},
		{"$^$", "a", "yd"},
		{"^a", "aa", "-yd"},
		{"a^", "aa", "ddd"},
		{"a$", "aa", "-yd"},
		{"$a", "aa", "ddd"},
		{"a$a", "aa", "ddd"},
		{"(a$)*", "aa", "yyd"},
		{"(a|$)*", "aab", "yyyd"},
		{"(^a|b)*", "abba", "yyyyd"},
		{"(^|b)a*", "aab", "yyyd"},
		{"a^|b", "ba", "-yd"},
		{"(a|$b)*c", "aac", "---y"},
		{"(a^|b)*", "bba", "yyyd"},
		{"a*($|b)", "aab", "yyyy"},
		// bytes that there are none of
		{"[]", "a", "dd"},
		{"[]*", "a", "yd"},
		{"a[]", "aa", "ddd"},
		{"a[]|a", "aa", "-yd"},
		{"(a[])*b", "ba", "-yd"},
		{"a*[]", "aa", "ddd"},
		// bytes, not letters
		{".", "é", "-yd"},
		{"..", "é", "--y"},
		{`\x00\xff`, "\x00\xff\x00", "--yd"},
		{`[^\xff]*`, "\x00\xfe\n\xff", "yyyyd"},
	} {
		f := made(t, parsed(t, x.pattern))
		for range 2 {
			for at := range len(x.text) + 1 {
				tells(t, f, x.want[at] == 'y', x.want[at] == 'd', at)
				if at < len(x.text) {
					put(t, f, x.text[at:at+1])
				}
			}
			f.Again()
		}
		if t.Failed() {
			t.Fatalf("%s on %q", x.pattern, x.text)
		}
	}
}

// patterns are all of at most so many nodes: of all lists of nodes those that are one.
func patterns(most int) [][]api.Node {
	kinds := []api.Node{{Op: api.Byte, Class: class.Of("a")}, {Op: api.Byte, Class: class.Of("ab")}}
	for op := api.Empty; op <= api.End; op++ {
		kinds = append(kinds, api.Node{Op: op})
	}
	lists := [][]api.Node{nil}
	var out [][]api.Node
	for i := 0; i < len(lists); i++ {
		if rex.Check(lists[i]) == nil {
			out = append(out, lists[i])
		}
		for _, kind := range kinds {
			if len(lists[i]) < most {
				lists = append(lists, append(slices.Clone(lists[i]), kind))
			}
		}
	}
	return out
}

// texts are all of at most so many letters, a and b.
func texts(most int) []string {
	out := []string{""}
	for i := 0; i < len(out); i++ {
		if len(out[i]) < most {
			out = append(out, out[i]+"a", out[i]+"b")
		}
	}
	return out
}

// fits are those of some texts that a pattern fits as a whole, by what it says.
func fits(t *testing.T, r []api.Node, texts []string) map[string]bool {
	t.Helper()
	out := map[string]bool{}
	for _, text := range texts {
		yes, err := mean.Yes(r, text)
		if err != nil {
			t.Fatalf("mean.Yes(%v, %q): %v", r, text, err)
		}
		if yes {
			out[text] = true
		}
	}
	return out
}

// beginSome are the texts with which others begin, and these.
func beginSome(all map[string]bool) map[string]bool {
	out := map[string]bool{}
	for text := range all {
		for at := range len(text) + 1 {
			out[text[:at]] = true
		}
	}
	return out
}

// E1, M1: every small pattern. As a pattern of five nodes has three bytes at most, whatever begins a text that it fits
// begins one of three bytes more.
func TestSmallPatterns(t *testing.T) {
	const put, more = 3, 3
	short, long := texts(put), texts(put+more)
	all := patterns(5)
	if want := 5 + 15 + 95 + 585 + 4105; len(all) != want { // by how many nodes they have
		t.Errorf("got %d patterns, want %d", len(all), want)
	}
	for _, r := range all {
		yes := fits(t, r, long)
		begins := beginSome(yes)
		f := made(t, r)
		for _, text := range short {
			f.Again()
			f.Put(text)
			if f.Yes() != yes[text] || f.Dead() == begins[text] || f.Len() != len(text) {
				t.Fatalf("%v on %q: got Yes %v, Dead %v, Len %d", r, text, f.Yes(), f.Dead(), f.Len())
			}
		}
	}
}

// some patterns, with ways that meet, lead round, and hang on where the text begins and ends.
func some() []string {
	return []string{
		"(a|ab)(c|bcd)*", "(a*)*b", "(a*b*)*c?", "((a|)+b?)+", "(^|a)*", "(^a|b$)+", "($|b)+a*", "(a|b|^|$)*",
		"(()*)*", "(^*$*)+", "(aa|aaa)*", "(aaa|aaaaa)+", "((ab)*a)*", "[^a]*a[^a]*", ".*b.", "a?a?a?aaa", "(a?b?c?)+d",
		"(^$)*", "^+", "(a+|b+)*c", "((a*)+)?", "a**", "a+*", "(b|a*)(a|b*)", "[]*a", "([]|a)+", "(a|[])?b$", "^a*$", "$a*^",
		"(a|b)*a(a|b)(a|b)(a|b)", "a*b*c*d*$", "(abc|bcd|cda)*", "[^]*bca",
	}
}

// cut a text to pieces, told by the bits of a number: one stands where it is cut.
func cut(text string, where int) []string {
	var out []string
	from := 0
	for at := 1; at < len(text); at++ {
		if where>>(at-1)&1 == 1 {
			out = append(out, text[from:at])
			from = at
		}
	}
	return append(out, text[from:])
}

// E1: however a text comes to be, and whatever is asked between, what is told is the same.
func TestHoweverCut(t *testing.T) {
	for _, pattern := range some() {
		r := parsed(t, pattern)
		f := made(t, r)
		for _, text := range []string{"a", "abcd", "aaaaaaa", "abababa", "bca\nabc"} {
			yes, _ := mean.Yes(r, text)
			for where := range 1 << (len(text) - 1) {
				f.Again()
				for _, piece := range cut(text, where) {
					put(t, f, "", piece, "")
					if where%2 == 1 && f.Yes() && f.Dead() {
						t.Fatalf("%s on the first %d bytes of %q: Yes and Dead", pattern, f.Len(), text)
					}
				}
				if f.Yes() != yes || f.Len() != len(text) {
					t.Fatalf("%s on %q, cut by %b: got Yes %v, Len %d", pattern, text, where, f.Yes(), f.Len())
				}
			}
		}
	}
}

// letters is a text of a, b, c and d, told by numbers that come one of the other.
func letters(many int, number uint32) string {
	var out []byte
	for range many {
		number = number*1664525 + 1013904223
		out = append(out, 'a'+byte(number>>20&3))
	}
	return string(out)
}

// E1, M1: what is told at each place of a text is what the pattern says of it up to there; what is dead stays dead.
func TestSameAsPatterns(t *testing.T) {
	for _, pattern := range some() {
		r := parsed(t, pattern)
		for _, text := range []string{"aaaaaaaaaaaab", "abababababa", "bbbabc", "cabcabdabca", "abcbcdcdaabc", "b", letters(40, 7), "aabbccdd"} {
			f := made(t, r)
			wasDead := false
			for at := range len(text) + 1 {
				yes, err := mean.Yes(r, text[:at])
				if f.Yes() != yes || err != nil {
					t.Errorf("%s on %q: got Yes %v, want %v %v", pattern, text[:at], f.Yes(), yes, err)
				}
				if f.Dead() && yes || wasDead && !f.Dead() {
					t.Errorf("%s on %q: Dead %v, Yes %v, and before that Dead %v", pattern, text[:at], f.Dead(), yes, wasDead)
				}
				wasDead = f.Dead()
				put(t, f, text[at:min(at+1, len(text))])
			}
		}
	}
}

// E1: each byte is told from all others.
func TestEachByte(t *testing.T) {
	for b := range 256 {
		one := string([]byte{byte(b)})
		is := made(t, []api.Node{{Op: api.Byte, Class: class.Of(one)}})
		not := made(t, []api.Node{{Op: api.Byte, Class: class.Not(class.Of(one))}})
		for c := range 256 {
			is.Again()
			not.Again()
			put(t, is, string([]byte{byte(c)}))
			put(t, not, string([]byte{byte(c)}))
			tells(t, is, b == c, b != c, 1)
			tells(t, not, b != c, b == c, 1)
		}
	}
}

// E1: a text has 400 bytes at most; a piece with which it would have more changes nothing.
func TestFull(t *testing.T) {
	f := made(t, parsed(t, "(aa)*"))
	refused(t, f, api.MaxText+1)
	refused(t, f, 100000)
	tells(t, f, true, false, 0)
	for range 2 {
		for i := range api.MaxText {
			tells(t, f, i%2 == 0, false, i)
			refused(t, f, api.MaxText-i+1)
			tells(t, f, i%2 == 0, false, i)
			put(t, f, "a")
		}
		for _, many := range []int{1, 2, api.MaxText - 1, api.MaxText, api.MaxText + 1, 100000} {
			refused(t, f, many)
		}
		put(t, f, "")
		tells(t, f, true, false, api.MaxText)
		f.Again()
		tells(t, f, true, false, 0)
		put(t, f, strings.Repeat("a", api.MaxText))
		refused(t, f, 1)
		tells(t, f, true, false, api.MaxText)
		f.Again()
	}
	put(t, f, strings.Repeat("a", api.MaxText-1))
	refused(t, f, 2)
	tells(t, f, false, false, api.MaxText-1)
	put(t, f, "b")
	tells(t, f, false, true, api.MaxText)
}

// E1: where it is dead, no piece makes it live, one that is too long neither; only an empty text does.
func TestDeadStays(t *testing.T) {
	f := made(t, parsed(t, "ab*"))
	put(t, f, "ac")
	tells(t, f, false, true, 2)
	for at := 2; at < api.MaxText; at += 2 {
		put(t, f, "ab")
		refused(t, f, api.MaxText)
		tells(t, f, false, true, at+2)
	}
	f.Again()
	tells(t, f, false, false, 0)
	put(t, f, "ab")
	tells(t, f, true, false, 2)
}

// E1: patterns of as many nodes as there may be.
func TestGreatPatterns(t *testing.T) {
	long := strings.Repeat("a", api.MaxText)
	for _, x := range []struct {
		pattern string
		rest    string // of the text, behind some a
		yes     bool
		dead    bool
	}{
		{strings.Repeat("a*", 20), "", true, false},
		{strings.Repeat("a*", 20), "b", false, true},
		{strings.Repeat("(", 19) + "a" + strings.Repeat("|b)*", 19), "ba", true, false},
		{strings.Repeat("(", 19) + "a" + strings.Repeat("|b)*", 19), "bc", false, true},
		{"((((((a|a)+|a)+|a)+|a)+|a)+|a)*$", "", true, false},
		{"((((((a|a)+|a)+|a)+|a)+|a)+|a)*$", "b", false, true},
		{"(a|b)*a" + strings.Repeat("(a|b)", 13), "b" + long[:12], true, false},
		{"(a|b)*a" + strings.Repeat("(a|b)", 13), "b" + long[:13], false, false},
		{"(a|b)*a" + strings.Repeat("(a|b)", 13), "b" + long[:14], true, false},
		{strings.Repeat("a?", 10) + strings.Repeat("a", 10), "", false, true},
	} {
		f := made(t, parsed(t, x.pattern))
		put(t, f, long[:api.MaxText-len(x.rest)], x.rest)
		tells(t, f, x.yes, x.dead, api.MaxText)
	}
	f := made(t, append(slices.Repeat([]api.Node{{Op: api.Star}}, api.MaxNodes-1), api.Node{Op: api.Byte, Class: class.Of("a")}))
	put(t, f, long)
	tells(t, f, true, false, api.MaxText)
	f = made(t, parsed(t, strings.Repeat("a", 30)))
	put(t, f, long[:30])
	tells(t, f, true, false, 30)
}

// E1, R1: what is wrong with a pattern is told by New.
func TestNoPattern(t *testing.T) {
	for _, x := range []struct {
		r    []api.Node
		want api.Errno
	}{
		{nil, api.ErrShape},
		{[]api.Node{}, api.ErrShape},
		{[]api.Node{{}}, api.ErrRange},
		{[]api.Node{{Op: 10}}, api.ErrRange},
		{[]api.Node{{Op: math.MinInt}}, api.ErrRange},
		{[]api.Node{{Op: math.MaxInt}}, api.ErrRange},
		{[]api.Node{{Op: api.Star}}, api.ErrShape},
		{[]api.Node{{Op: api.Cat}, {Op: api.Empty}}, api.ErrShape},
		{[]api.Node{{Op: api.Empty}, {Op: api.Empty}}, api.ErrShape},
		{[]api.Node{{Op: api.Empty, Class: api.Class{1}}}, api.ErrShape},
		{[]api.Node{{Op: api.Empty, Class: api.Class{1}}, {Op: 10}}, api.ErrShape},
		{[]api.Node{{Op: 10}, {Op: api.Empty, Class: api.Class{1}}}, api.ErrRange},
		{make([]api.Node, api.MaxNodes+1), api.ErrFull},
		{make([]api.Node, 2000), api.ErrFull},
	} {
		if f, err := New(x.r); f != nil || plain.Told(err) != x.want {
			t.Errorf("New(%d nodes): got %v %v, want %v", len(x.r), f, err, x.want)
		}
	}
}

// P2, P4: the pattern is not kept, two feeds of it share nothing, and what lies behind a length is not read.
func TestFreshMemory(t *testing.T) {
	star, a := api.Node{Op: api.Star}, api.Node{Op: api.Byte, Class: class.Of("a")}
	all := []api.Node{star, a, {Op: 99}}
	f, g := made(t, all[:2]), made(t, all[:2])
	put(t, f, "aab")
	tells(t, f, false, true, 3)
	tells(t, g, true, false, 0)
	all[0], all[1] = api.Node{Op: api.Plus}, api.Node{Op: api.Byte, Class: class.Of("b")}
	put(t, g, "aa")
	tells(t, g, true, false, 2)
	f.Again()
	tells(t, f, true, false, 0)
	tells(t, g, true, false, 2)
	put(t, f, "b")
	tells(t, f, false, true, 1)
	put(t, g, "b")
	tells(t, g, false, true, 3)
	if all[2] != (api.Node{Op: 99}) {
		t.Errorf("it became %v", all[2])
	}
}

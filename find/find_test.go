package find

import (
	"math"
	"slices"
	"strings"
	"testing"

	"winnowfan/api"
	"winnowfan/class"
	"winnowfan/mean"
	"winnowfan/plain"
	"winnowfan/syn"
)

// Nodes, so that patterns can be written in a line.
func bytesOf(letters string) api.Node { return api.Node{Op: api.Byte, Class: class.Of(letters)} }

var (
	a     = bytesOf("a")
	b     = bytesOf("b")
	none  = api.Node{Op: api.Byte}
	empty = api.Node{Op: api.Empty}
	cat   = api.Node{Op: api.Cat}
	or    = api.Node{Op: api.Or}
	star  = api.Node{Op: api.Star}
	plus  = api.Node{Op: api.Plus}
	opt   = api.Node{Op: api.Opt}
	begin = api.Node{Op: api.Begin}
	end   = api.Node{Op: api.End}
)

// parsed is the pattern of a text.
func parsed(t *testing.T, pattern string) []api.Node {
	t.Helper()
	r, _, err := syn.Parse(pattern)
	if err != nil {
		t.Fatalf("Parse(%s): %v", pattern, err)
	}
	return r
}

// found holds Find against the span that it has to tell.
func found(t *testing.T, r []api.Node, text string, from int, want api.Span) {
	t.Helper()
	if got, err := Find(r, text, from); got != want || err != nil {
		t.Errorf("Find(%v, %q, %d): got %v %v, want %v", r, text, from, got, err, want)
	}
}

// refused holds Find against an error; with it, there is no span.
func refused(t *testing.T, r []api.Node, text string, from int, want api.Errno) {
	t.Helper()
	if got, err := Find(r, text, from); got != (api.Span{}) || plain.Told(err) != want {
		t.Errorf("Find(%d nodes, %d bytes, %d): got %v %v, want %v", len(r), len(text), from, got, err, want)
	}
}

// foundAll holds All against the spans that it has to tell; that there is none is nothing wrong.
func foundAll(t *testing.T, r []api.Node, text string, want []api.Span) {
	t.Helper()
	before := slices.Clone(r)
	if got, err := All(r, text); !slices.Equal(got, want) || err != nil {
		t.Errorf("All(%v, %q): got %v %v, want %v", r, text, got, err, want)
	}
	if !slices.Equal(r, before) {
		t.Errorf("%v became %v", before, r)
	}
}

// refusedAll holds All against an error; with it, there are no spans.
func refusedAll(t *testing.T, r []api.Node, text string, want api.Errno) {
	t.Helper()
	if got, err := All(r, text); got != nil || plain.Told(err) != want {
		t.Errorf("All(%d nodes, %d bytes): got %v %v, want %v", len(r), len(text), got, err, want)
	}
}

// F1: spans, written out by hand.
func TestFind(t *testing.T) {
	for _, x := range []struct {
		pattern, text string
		from          int
		want          api.Span
	}{
		{"a", "a", 0, api.Span{From: 0, To: 1}},
		{"a", "ba", 0, api.Span{From: 1, To: 2}},
		{"a", "ba", 1, api.Span{From: 1, To: 2}},
		{"a", "aba", 1, api.Span{From: 2, To: 3}},
		{"a", "bbba", 2, api.Span{From: 3, To: 4}},
		{"ab", "aaab", 0, api.Span{From: 2, To: 4}},
		{"aba", "ababa", 1, api.Span{From: 2, To: 5}},
		// nothing is found, too, also at the end
		{"", "", 0, api.Span{}},
		{"", "ab", 0, api.Span{}},
		{"", "ab", 1, api.Span{From: 1, To: 1}},
		{"", "ab", 2, api.Span{From: 2, To: 2}},
		{"a*", "ba", 2, api.Span{From: 2, To: 2}},
		// which begins first, also where a later one would be longer
		{"a*", "baaa", 0, api.Span{}},
		{"a*", "baaa", 1, api.Span{From: 1, To: 4}},
		{"a|bcd", "abcd", 0, api.Span{From: 0, To: 1}},
		{"a|bcd", "xbcda", 0, api.Span{From: 1, To: 4}},
		{"bcd|a", "abcd", 0, api.Span{From: 0, To: 1}},
		{"c|abd", "abcabd", 0, api.Span{From: 2, To: 3}},
		// of those that begin there the longest, however the pattern tells them
		{"a|ab", "xab", 0, api.Span{From: 1, To: 3}},
		{"ab|a", "xab", 0, api.Span{From: 1, To: 3}},
		{"|a|aa", "aaa", 1, api.Span{From: 1, To: 3}},
		{"(a|ab)(c|bcd)", "xabcd", 0, api.Span{From: 1, To: 5}},
		{"(aa|aaa)*", "aaaaa", 0, api.Span{From: 0, To: 5}},
		{"(aa)*", "aaaaa", 0, api.Span{From: 0, To: 4}},
		{"(aa)*", "aaaaa", 2, api.Span{From: 2, To: 4}},
		{"a(bbbc)?", "abbbabbbc", 0, api.Span{From: 0, To: 1}}, // what goes on for long, and then is none
		{"a.*c|a", "ab\nc", 0, api.Span{From: 0, To: 1}},
		{".+", "\nab\nc", 0, api.Span{From: 1, To: 3}},
		// where the text begins and ends, not where one looks from
		{"^a?", "ab", 0, api.Span{From: 0, To: 1}},
		{"^|b", "ab", 1, api.Span{From: 1, To: 2}},
		{"$", "ab", 0, api.Span{From: 2, To: 2}},
		{"$", "ab", 2, api.Span{From: 2, To: 2}},
		{"^$", "", 0, api.Span{}},
		{"a+$", "aabaa", 0, api.Span{From: 3, To: 5}},
		{"a+$|a", "aabaa", 0, api.Span{From: 0, To: 1}},
		{"a*$", "ab", 0, api.Span{From: 2, To: 2}},
		// places are of bytes
		{`\xa9`, "é", 0, api.Span{From: 1, To: 2}},
		{`.`, "é", 0, api.Span{From: 0, To: 1}},
		{`\x00`, "a\x00", 0, api.Span{From: 1, To: 2}},
		{`[^a]`, "a\xff", 0, api.Span{From: 1, To: 2}},
	} {
		found(t, parsed(t, x.pattern), x.text, x.from, x.want)
	}
}

// F1: there is none.
func TestFindNone(t *testing.T) {
	for _, x := range []struct {
		pattern, text string
		from          int
	}{
		{"a", "", 0}, {"a", "b", 0}, {"a", "b", 1}, {"a", "ab", 1}, {"a", "ab", 2}, {"a+", "baab", 3}, {"aa", "aba", 0},
		{"[]", "", 0}, {"[]", "ab", 0}, {"a[]", "aa", 0}, {".", "\n", 0}, {"ab", "a", 0}, {"abc", "abab", 0},
		{"^", "a", 1}, {"^a", "aa", 1}, {"^a", "ba", 0}, {"a^", "aa", 0}, {"$a", "aa", 0}, {"^$", "a", 0}, {"^$", "a", 1}, {"a$", "ab", 0},
	} {
		refused(t, parsed(t, x.pattern), x.text, x.from, api.ErrNone)
	}
}

// F1: all spans, written out by hand.
func TestAll(t *testing.T) {
	for _, x := range []struct {
		pattern, text string
		want          []api.Span
	}{
		{"a", "", nil},
		{"a", "b", nil},
		{"[]", "ab", nil},
		{"a", "a", []api.Span{{From: 0, To: 1}}},
		{"a", "aba", []api.Span{{From: 0, To: 1}, {From: 2, To: 3}}},
		{"a", "aaa", []api.Span{{From: 0, To: 1}, {From: 1, To: 2}, {From: 2, To: 3}}},
		// none within another one
		{"aa", "aaaaa", []api.Span{{From: 0, To: 2}, {From: 2, To: 4}}},
		{"aba", "ababa", []api.Span{{From: 0, To: 3}}},
		{"a+", "aabaaab", []api.Span{{From: 0, To: 2}, {From: 3, To: 6}}},
		{"a|ab|b", "abab", []api.Span{{From: 0, To: 2}, {From: 2, To: 4}}},
		// empty ones: one further, and at the end, too
		{"", "", []api.Span{{}}},
		{"", "ab", []api.Span{{}, {From: 1, To: 1}, {From: 2, To: 2}}},
		{"a*", "", []api.Span{{}}},
		{"a*", "ba", []api.Span{{}, {From: 1, To: 2}, {From: 2, To: 2}}},
		{"a*", "ab", []api.Span{{From: 0, To: 1}, {From: 1, To: 1}, {From: 2, To: 2}}}, // an empty one right behind another one
		{"a*", "aa", []api.Span{{From: 0, To: 2}, {From: 2, To: 2}}},
		{"a*", "abba", []api.Span{{From: 0, To: 1}, {From: 1, To: 1}, {From: 2, To: 2}, {From: 3, To: 4}, {From: 4, To: 4}}},
		{"a?", "aab", []api.Span{{From: 0, To: 1}, {From: 1, To: 2}, {From: 2, To: 2}, {From: 3, To: 3}}},
		{"(aa)*", "aaab", []api.Span{{From: 0, To: 2}, {From: 2, To: 2}, {From: 3, To: 3}, {From: 4, To: 4}}},
		{"(ab|)", "bab", []api.Span{{}, {From: 1, To: 3}, {From: 3, To: 3}}},
		// where the text begins and ends, not where the one ahead ended
		{"^", "ab", []api.Span{{}}},
		{"$", "ab", []api.Span{{From: 2, To: 2}}},
		{"^|$", "ab", []api.Span{{}, {From: 2, To: 2}}},
		{"^|$", "", []api.Span{{}}},
		{"^$", "", []api.Span{{}}},
		{"^a", "aa", []api.Span{{From: 0, To: 1}}},
		{"^|b", "bb", []api.Span{{From: 0, To: 1}, {From: 1, To: 2}}},
		{"^|b", "abb", []api.Span{{}, {From: 1, To: 2}, {From: 2, To: 3}}},
		{"a$", "aa", []api.Span{{From: 1, To: 2}}},
		{"a*$", "aba", []api.Span{{From: 2, To: 3}, {From: 3, To: 3}}},
		{"a$|", "aa", []api.Span{{}, {From: 1, To: 2}, {From: 2, To: 2}}},
		// bytes
		{".", "é\n", []api.Span{{From: 0, To: 1}, {From: 1, To: 2}}},
		{`[\x80-\xff]*`, "éa", []api.Span{{From: 0, To: 2}, {From: 2, To: 2}, {From: 3, To: 3}}},
	} {
		foundAll(t, parsed(t, x.pattern), x.text, x.want)
	}
}

// spansOf are all spans that a pattern fits, as package mean tells them: those that begin first ahead, and of those the
// longest ahead.
func spansOf(t *testing.T, r []api.Node, text string) []api.Span {
	t.Helper()
	var out []api.Span
	for from := range len(text) + 1 {
		ends, err := mean.Ends(r, text, from)
		if err != nil {
			t.Fatalf("mean.Ends(%v, %q, %d): %v", r, text, from, err)
		}
		slices.Reverse(ends)
		for _, to := range ends {
			out = append(out, api.Span{From: from, To: to})
		}
	}
	return out
}

// asMean holds both calls, at each place of some texts, against package mean.
func asMean(t *testing.T, r []api.Node, texts ...string) {
	t.Helper()
	for _, text := range texts {
		spans := spansOf(t, r, text)
		for from := range len(text) + 1 {
			i := slices.IndexFunc(spans, func(s api.Span) bool { return s.From >= from })
			if i < 0 {
				refused(t, r, text, from, api.ErrNone)
			} else {
				found(t, r, text, from, spans[i])
			}
		}
		var all []api.Span
		least := 0
		for _, s := range spans {
			if s.From >= least {
				all = append(all, s)
				least = max(s.To, s.From+1)
			}
		}
		foundAll(t, r, text, all)
	}
}

// patterns are all patterns of so many nodes, with some classes.
func patterns(many int) [][]api.Node {
	if many == 1 {
		return [][]api.Node{{a}, {b}, {none}, {empty}, {begin}, {end}}
	}
	var out [][]api.Node
	for _, part := range patterns(many - 1) {
		for _, over := range []api.Node{star, plus, opt} {
			out = append(out, slices.Concat([]api.Node{over}, part))
		}
	}
	for left := 1; left < many-1; left++ {
		for _, first := range patterns(left) {
			for _, second := range patterns(many - 1 - left) {
				out = append(out, slices.Concat([]api.Node{cat}, first, second), slices.Concat([]api.Node{or}, first, second))
			}
		}
	}
	return out
}

// F1, M1: none ahead, none longer: every pattern of few nodes.
func TestEveryShortPattern(t *testing.T) {
	for many := 1; many <= 4; many++ {
		for _, r := range patterns(many) {
			asMean(t, r, "", "a", "b", "ab", "ba", "aab", "bab", "abba")
		}
	}
}

// letters is a text of the first so many letters, told by numbers that come one of the other.
func letters(many, kinds int, number uint32) string {
	var out []byte
	for range many {
		number = number*1664525 + 1013904223
		out = append(out, 'a'+byte(int(number>>20)%kinds))
	}
	return string(out)
}

// wide is a pattern whose auto comes to some 2^many sets of steps, so that it begins anew in one text.
func wide(many int) string {
	return "(a|b)*a" + strings.Repeat("(a|b)", many)
}

// F1, M1: patterns of some more nodes.
func TestSameAsMean(t *testing.T) {
	texts := []string{"", "aab", "abcd", "aaaaaaaaa", "bababab", "bbbabc", "cabcabdabca", "bca\nabc", letters(40, 3, 7), letters(40, 2, 8)}
	for _, pattern := range []string{
		"(a|ab)(c|bcd)*", "(a*)*b", "(a*b*)*c?", "((a|)+b?)+", "(^|a)*", "(^a|b$)+", "($|b)+a*", "(a|b|^|$)*",
		"(()*)*", "(^*$*)+", "(aa|aaa)*", "(aaa|aaaaa)+", "((ab)*a)*", "[^a]*a[^a]*", ".*b.", "a?a?a?aaa", "(a?b?c?)+d",
		"(^$)*", "^+", "(a+|b+)*c", "((a*)+)?", "a**", "a+*", "(b|a*)(a|b*)", "[]*a", "([]|a)+", "(a|[])?b$", "^a*$", "$a*^",
		"a(.*c)?", "b.*b|c", "(ab|ba)+", "abc|bca|cab", wide(2), wide(8), "c" + wide(7) + "|$",
	} {
		asMean(t, parsed(t, pattern), texts...)
	}
}

// F1: as many bytes and nodes as there may be.
func TestGreat(t *testing.T) {
	long := strings.Repeat("a", api.MaxText)
	whole := api.Span{From: 0, To: api.MaxText}
	behind := api.Span{From: api.MaxText, To: api.MaxText}
	var each, empties []api.Span
	for i := range api.MaxText {
		each = append(each, api.Span{From: i, To: i + 1})
		empties = append(empties, api.Span{From: i, To: i})
	}
	foundAll(t, parsed(t, "a*"), long, []api.Span{whole, behind})
	foundAll(t, parsed(t, "a+"), long, []api.Span{whole})
	foundAll(t, parsed(t, "a"), long, each)
	foundAll(t, parsed(t, "a?"), long, append(each, behind))
	foundAll(t, parsed(t, ""), long, append(empties, behind))
	foundAll(t, parsed(t, "b*"), long, append(empties, behind))
	foundAll(t, parsed(t, "b"), long, nil)
	foundAll(t, parsed(t, "a*b"), long, nil)
	found(t, parsed(t, "b|a$"), long, 0, api.Span{From: 399, To: 400})
	found(t, parsed(t, "b|a$"), long, 399, api.Span{From: 399, To: 400})
	refused(t, parsed(t, "b|a$"), long, 400, api.ErrNone)
	found(t, parsed(t, "b?"), long, 400, behind)
	thirty := slices.Concat(slices.Repeat([]api.Node{cat}, 29), slices.Repeat([]api.Node{a}, 30))
	foundAll(t, append([]api.Node{plus}, thirty...), long, []api.Span{{From: 0, To: 390}})
	foundAll(t, append(slices.Repeat([]api.Node{star}, api.MaxNodes-1), a), long, []api.Span{whole, behind})
	asMean(t, parsed(t, wide(8)), letters(api.MaxText, 2, 5))
	asMean(t, parsed(t, wide(6)+"$"), letters(100, 2, 6))
	asMean(t, parsed(t, "c*"+wide(5)+"c"), letters(api.MaxText, 3, 7))
}

// places are some that may be, and some that may not.
func places(text string) []int {
	return []int{math.MinInt, -1, 0, 1, len(text), len(text) + 1, math.MaxInt}
}

// F1: 401 bytes are ErrFull, wherever one looks from, and whether something is there or not.
func TestFull(t *testing.T) {
	for _, many := range []int{api.MaxText + 1, 448, 449, 100000} {
		text := strings.Repeat("a", many)
		for _, pattern := range []string{"", "a", "b", "[]", "a*$"} {
			for _, from := range places(text) {
				refused(t, parsed(t, pattern), text, from, api.ErrFull)
			}
			refusedAll(t, parsed(t, pattern), text, api.ErrFull)
		}
	}
}

// F1: from is from 0 to how many bytes; that comes ahead of that there is none.
func TestNoPlace(t *testing.T) {
	for _, text := range []string{"", "a", "aab", strings.Repeat("a", api.MaxText)} {
		for _, from := range []int{math.MinInt, -64, -1, len(text) + 1, len(text) + 64, math.MaxInt} {
			for _, pattern := range []string{"", "a", "b", "[]", "^", "$"} {
				refused(t, parsed(t, pattern), text, from, api.ErrRange)
			}
		}
		refused(t, []api.Node{none}, text, 0, api.ErrNone)
		refused(t, []api.Node{none}, text, len(text), api.ErrNone)
		foundAll(t, []api.Node{none}, text, nil)
	}
}

// F1: what is wrong with the pattern is told ahead of what is wrong with the text and the place.
func TestNoPattern(t *testing.T) {
	classed := api.Node{Op: api.Empty, Class: class.Of("a")}
	for _, x := range []struct {
		r    []api.Node
		want api.Errno
	}{
		{nil, api.ErrShape},
		{[]api.Node{}, api.ErrShape},
		{[]api.Node{{}}, api.ErrRange},
		{[]api.Node{{Op: 10}}, api.ErrRange},
		{[]api.Node{{Op: math.MinInt}}, api.ErrRange},
		{[]api.Node{{Op: math.MaxInt}}, api.ErrRange},
		{[]api.Node{a, {Op: 10}}, api.ErrRange}, // also behind the pattern
		{[]api.Node{classed}, api.ErrShape},
		{[]api.Node{classed, {Op: 10}}, api.ErrShape},
		{[]api.Node{{Op: 10}, classed}, api.ErrRange},
		{[]api.Node{cat, a}, api.ErrShape},
		{[]api.Node{star}, api.ErrShape},
		{[]api.Node{a, a}, api.ErrShape},
		{slices.Repeat([]api.Node{opt}, api.MaxNodes), api.ErrShape},
		{append(slices.Repeat([]api.Node{opt}, api.MaxNodes), a), api.ErrFull},
		{make([]api.Node, 100000), api.ErrFull},
	} {
		for _, text := range []string{"", "a", strings.Repeat("a", api.MaxText+1)} {
			for _, from := range places(text) {
				refused(t, x.r, text, from, x.want)
			}
			refusedAll(t, x.r, text, x.want)
		}
	}
}

// P2, P4: what is told is the caller's, nothing is kept from call to call, and what lies behind a length is not read.
func TestFreshMemory(t *testing.T) {
	all := []api.Node{cat, a, b, {Op: 99}, begin}
	before := slices.Clone(all)
	refused(t, all[:2], "ab", 0, api.ErrShape)
	refusedAll(t, all[:2], "ab", api.ErrShape)
	found(t, all[:3], "aab", 0, api.Span{From: 1, To: 3})
	one, _ := All(all[:3], "abab")
	two, _ := All(all[:3], "abab")
	clear(one[:cap(one)])
	if !slices.Equal(two, []api.Span{{From: 0, To: 2}, {From: 2, To: 4}}) {
		t.Errorf("what was told became %v", two)
	}
	foundAll(t, all[:3], "abab", two)
	if !slices.Equal(all, before) {
		t.Errorf("%v became %v", before, all)
	}
	all[1] = b
	foundAll(t, all[:3], "abb", []api.Span{{From: 1, To: 3}})
	found(t, all[:3], "abb", 0, api.Span{From: 1, To: 3})
}

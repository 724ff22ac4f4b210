package swap

import (
	"math"
	"slices"
	"strings"
	"testing"
	"unsafe"

	"winnowfan/api"
	"winnowfan/class"
	"winnowfan/mean"
	"winnowfan/plain"
	"winnowfan/rex"
	"winnowfan/syn"
)

// parsed is the pattern of a text.
func parsed(t *testing.T, pattern string) []api.Node {
	t.Helper()
	r, _, err := syn.Parse(pattern)
	if err != nil {
		t.Fatalf("Parse(%s): %v", pattern, err)
	}
	return r
}

// replaced holds Replace against what has to come.
func replaced(t *testing.T, r []api.Node, text, by, want string) {
	t.Helper()
	before := slices.Clone(r)
	if got, err := Replace(r, text, by); got != want || err != nil {
		t.Errorf("Replace(%v, %q, %q): got %q %v, want %q", r, text, by, got, err, want)
	}
	if !slices.Equal(r, before) {
		t.Errorf("%v became %v", before, r)
	}
}

// refused holds Replace against an error; with it, nothing comes.
func refused(t *testing.T, r []api.Node, text, by string, want api.Errno) {
	t.Helper()
	if got, err := Replace(r, text, by); got != "" || plain.Told(err) != want {
		t.Errorf("Replace(%d nodes, %d bytes, %d bytes): got %d bytes %v, want %v", len(r), len(text), len(by), len(got), err, want)
	}
}

// split holds Split against the pieces that have to come.
func split(t *testing.T, r []api.Node, text string, want ...string) {
	t.Helper()
	before := slices.Clone(r)
	if got, err := Split(r, text); !slices.Equal(got, want) || err != nil {
		t.Errorf("Split(%v, %q): got %q %v, want %q", r, text, got, err, want)
	}
	if !slices.Equal(r, before) {
		t.Errorf("%v became %v", before, r)
	}
}

// refusedSplit holds Split against an error; with it, there are no pieces.
func refusedSplit(t *testing.T, r []api.Node, text string, want api.Errno) {
	t.Helper()
	if got, err := Split(r, text); got != nil || plain.Told(err) != want {
		t.Errorf("Split(%d nodes, %d bytes): got %q %v, want %v", len(r), len(text), got, err, want)
	}
}

// X1: pieces, written out by hand, and what comes with a "-" between them.
func TestPieces(t *testing.T) {
	for _, x := range []struct {
		pattern, text string
		pieces        []string
	}{
		// nothing is found: the text is one piece, also an empty one
		{"a", "", []string{""}},
		{"a", "b", []string{"b"}},
		{"[]", "ab", []string{"ab"}},
		{"^b", "ab", []string{"ab"}},
		// ahead of the first, between, and behind the last one
		{"a", "a", []string{"", ""}},
		{"a", "ba", []string{"b", ""}},
		{"a", "ab", []string{"", "b"}},
		{"a", "bab", []string{"b", "b"}},
		{"a", "babbbac", []string{"b", "bbb", "c"}},
		{"a+", "baab", []string{"b", "b"}},
		{"a", "baab", []string{"b", "", "b"}},
		{"aa", "aaaaa", []string{"", "", "a"}},
		{"aba", "ababa", []string{"", "ba"}},
		{"(a|ab)(c|bcd)", "xabcdx", []string{"x", "x"}},
		{" *, *", "a , b,c", []string{"a", "b", "c"}},
		{".*", "ab\ncd", []string{"", "", "\n", "", ""}},
		{".+", "ab\ncd", []string{"", "\n", ""}},
		// empty spans
		{"", "", []string{"", ""}},
		{"", "a", []string{"", "a", ""}},
		{"", "abc", []string{"", "a", "b", "c", ""}},
		{"a*", "baac", []string{"", "b", "", "c", ""}},
		{"a*", "aa", []string{"", "", ""}},
		{"b*", "abc", []string{"", "a", "", "c", ""}},
		{"a?", "aab", []string{"", "", "", "b", ""}},
		// where the text begins and ends
		{"^", "ab", []string{"", "ab"}},
		{"$", "ab", []string{"ab", ""}},
		{"^|$", "ab", []string{"", "ab", ""}},
		{"^|$", "", []string{"", ""}},
		{"^a", "aaa", []string{"", "aa"}},
		{"a$", "aaa", []string{"aa", ""}},
		{"a$|b", "abaa", []string{"a", "a", ""}},
		// bytes, not letters
		{`\xa9`, "éa", []string{"\xc3", "a"}},
		{"", "é", []string{"", "\xc3", "\xa9", ""}},
		{`[\x00\xff]`, "\x00a\xff\x00", []string{"", "a", "", ""}},
	} {
		r := parsed(t, x.pattern)
		split(t, r, x.text, x.pieces...)
		replaced(t, r, x.text, "-", strings.Join(x.pieces, "-"))
		replaced(t, r, x.text, "", strings.Join(x.pieces, ""))
	}
}

// X1: what comes, written out by hand.
func TestReplace(t *testing.T) {
	for _, x := range []struct{ pattern, text, by, want string }{
		{"a+", "baab", "c", "bcb"},
		{"a", "baab", "c", "bccb"},
		{"a+", "baab", "", "bb"},
		{"a+", "baab", "xyz", "bxyzb"},
		{"a", "bb", "xyz", "bb"},
		{"a", "", "xyz", ""},
		{"", "", "xyz", "xyz"},
		{"", "ab", "_", "_a_b_"},
		{"a*", "baac", "_", "_b__c_"},
		{"^", "ab", "_", "_ab"},
		{"$", "ab", "_", "ab_"},
		{"a*$", "baa", "_", "b__"},
		// what comes in its place is not looked through, and none of its bytes says something
		{"a", "aa", "aa", "aaaa"},
		{"ab", "aabb", "", "ab"},
		{"ab", "abab", "ba", "baba"},
		{"a|b", "ab", "ab", "abab"},
		{"(a)(b)", "ab", `$1\1\0&%s$$`, `$1\1\0&%s$$`},
		{"a", "a-a", "\x00\xff\n", "\x00\xff\n-\x00\xff\n"},
		{`\xc3\xa9`, "née", "e", "nee"},
	} {
		replaced(t, parsed(t, x.pattern), x.text, x.by, x.want)
	}
}

// patterns are all of at most so many nodes: of all lists of nodes those that are one.
func patterns(most int) [][]api.Node {
	kinds := []api.Node{{Op: api.Byte, Class: class.Of("a")}, {Op: api.Byte, Class: class.Of("ab")}}
	for op := api.Empty; op <= api.End; op++ {
		kinds = append(kinds, api.Node{Op: op})
	}
	lists := [][]api.Node{nil}
	var out [][]api.Node
	for i := 0; i < len(lists); i++ {
		if rex.Check(lists[i]) == nil {
			out = append(out, lists[i])
		}
		for _, kind := range kinds {
			if len(lists[i]) < most {
				lists = append(lists, append(slices.Clone(lists[i]), kind))
			}
		}
	}
	return out
}

// cut a text to what stands between the spans of a pattern and to the texts of these spans, as package mean tells where
// it fits: byte by byte, each of them either in a span or between two.
func cut(t *testing.T, r []api.Node, text string) (between, within []string) {
	t.Helper()
	last := ""
	for at := 0; at <= len(text); {
		ends, err := mean.Ends(r, text, at)
		if err != nil {
			t.Fatalf("mean.Ends(%v, %q, %d): %v", r, text, at, err)
		}
		to := at
		if len(ends) > 0 {
			to = ends[len(ends)-1]
			between, within, last = append(between, last), append(within, text[at:to]), ""
		}
		if to == at {
			last += text[at:min(at+1, len(text))]
			to++
		}
		at = to
	}
	return append(between, last), within
}

// asMean holds both calls, at some texts, against package mean; nothing is lost between.
func asMean(t *testing.T, r []api.Node, texts ...string) {
	t.Helper()
	for _, text := range texts {
		between, within := cut(t, r, text)
		split(t, r, text, between...)
		whole := between[0]
		for i, found := range within {
			whole += found + between[i+1]
		}
		if whole != text {
			t.Errorf("%v: %q, and %q between, are %q", r, between, within, text)
		}
		for _, by := range []string{"", "_", "ab", text} {
			want := strings.Join(between, by)
			if len(want) > api.MaxText {
				refused(t, r, text, by, api.ErrFull)
			} else {
				replaced(t, r, text, by, want)
			}
		}
	}
}

// X1, F1, M1: every small pattern.
func TestSmallPatterns(t *testing.T) {
	all := patterns(4)
	if want := 5 + 15 + 95 + 585; len(all) != want { // by how many nodes they have
		t.Errorf("got %d patterns, want %d", len(all), want)
	}
	for _, r := range all {
		asMean(t, r, "", "a", "b", "ab", "ba", "aab", "bab", "abba")
	}
}

// letters is a text of the first so many letters, told by numbers that come one of the other.
func letters(many, kinds int, number uint32) string {
	var out []byte
	for range many {
		number = number*1664525 + 1013904223
		out = append(out, 'a'+byte(int(number>>20)%kinds))
	}
	return string(out)
}

// X1, F1, M1: patterns of some more nodes.
func TestSameAsMean(t *testing.T) {
	texts := []string{"", "aab", "abcd", "aaaaaaaaa", "bababab", "bbbabc", "cabcabdabca", "bca\nabc", letters(40, 3, 7), letters(100, 2, 8)}
	for _, pattern := range []string{
		"(a|ab)(c|bcd)*", "(a*)*b", "(a*b*)*c?", "((a|)+b?)+", "(^|a)*", "(^a|b$)+", "($|b)+a*", "(a|b|^|$)*",
		"(()*)*", "(^*$*)+", "(aa|aaa)*", "(aaa|aaaaa)+", "((ab)*a)*", "[^a]*a[^a]*", ".*b.", "a?a?a?aaa", "(a?b?c?)+d",
		"(^$)*", "^+", "(a+|b+)*c", "((a*)+)?", "a**", "a+*", "(b|a*)(a|b*)", "[]*a", "([]|a)+", "(a|[])?b$", "^a*$", "$a*^",
		"a(.*c)?", "b.*b|c", "(ab|ba)+", "abc|bca|cab", "(a|b)*a(a|b)(a|b)(a|b)|c", "[]", "[^]",
	} {
		asMean(t, parsed(t, pattern), texts...)
	}
}

// X1: as many bytes come as there may be, and one more.
func TestGreat(t *testing.T) {
	a, none, empty := parsed(t, "a"), parsed(t, "[]"), parsed(t, "")
	for _, x := range []struct {
		r              []api.Node
		a, b, by, want int // how often the text has an a, and behind it a b; how many bytes come in its place, and in all
	}{
		{a, 0, 400, 400, 400},
		{a, 1, 0, 400, 400},
		{a, 1, 1, 399, 400},
		{a, 1, 1, 400, 401},
		{a, 1, 399, 1, 400},
		{a, 1, 399, 0, 399},
		{a, 1, 399, 2, 401},
		{a, 2, 0, 200, 400},
		{a, 2, 0, 201, 402},
		{a, 2, 0, 400, 800},
		{a, 2, 1, 200, 401},
		{a, 133, 1, 3, 400},
		{a, 134, 0, 3, 402},
		{a, 400, 0, 1, 400},
		{a, 400, 0, 0, 0},
		{a, 400, 0, 2, 800},
		{a, 400, 0, 400, 160000},
		{none, 200, 200, 400, 400},
		{none, 0, 0, 400, 0},
		{empty, 0, 0, 400, 400},
		{empty, 1, 0, 200, 401},
		{empty, 1, 0, 199, 399},
		{empty, 100, 99, 1, 399},
		{empty, 100, 100, 1, 401},
		{empty, 200, 200, 0, 400},
		{empty, 200, 200, 1, 801},
		{parsed(t, "a+"), 400, 0, 400, 400},
		{parsed(t, "a*"), 400, 0, 200, 400}, // all of it, and nothing at its end
		{parsed(t, "a*"), 400, 0, 201, 402},
		{parsed(t, "$"), 200, 199, 1, 400},
		{parsed(t, "$"), 200, 200, 1, 401},
		{parsed(t, "^"), 200, 199, 1, 400},
		{parsed(t, "^"), 200, 200, 1, 401},
	} {
		text := strings.Repeat("a", x.a) + strings.Repeat("b", x.b)
		by := strings.Repeat("c", x.by)
		if x.want > api.MaxText {
			refused(t, x.r, text, by, api.ErrFull)
			continue
		}
		if got, err := Replace(x.r, text, by); len(got) != x.want || err != nil {
			t.Errorf("%v: %d bytes by %d: got %d %v, want %d", x.r, len(text), len(by), len(got), err, x.want)
		}
	}
	long := strings.Repeat("a", api.MaxText)
	split(t, a, long, make([]string, api.MaxText+1)...)
	split(t, empty, long, slices.Concat([]string{""}, strings.Split(long, ""), []string{""})...)
	split(t, none, long, long)
	asMean(t, parsed(t, "(a|b)*a"+strings.Repeat("(a|b)", 6)+"|c"), letters(api.MaxText, 3, 5))
	asMean(t, parsed(t, "ab*"), letters(api.MaxText, 3, 6))
	asMean(t, append(slices.Repeat([]api.Node{{Op: api.Star}}, api.MaxNodes-1), a...), long)
}

// X1: 401 bytes are ErrFull: of a text, also if fewer would come; of what comes in its place, also if it comes nowhere.
func TestFull(t *testing.T) {
	for _, pattern := range []string{"", "a", "b", "[]", "a*", "[^]*"} {
		r := parsed(t, pattern)
		for _, many := range []int{api.MaxText + 1, 448, 100000} {
			long := strings.Repeat("a", many)
			for _, by := range []string{"", "a", long} {
				refused(t, r, long, by, api.ErrFull)
			}
			for _, text := range []string{"", "a", "c", long[:api.MaxText]} {
				refused(t, r, text, long, api.ErrFull)
			}
			refusedSplit(t, r, long, api.ErrFull)
		}
	}
}

// X1, F1: what is wrong with the pattern is told ahead of what is wrong with the texts.
func TestNoPattern(t *testing.T) {
	classed := api.Node{Op: api.Empty, Class: class.Of("a")}
	for _, x := range []struct {
		r    []api.Node
		want api.Errno
	}{
		{nil, api.ErrShape},
		{[]api.Node{}, api.ErrShape},
		{[]api.Node{{}}, api.ErrRange},
		{[]api.Node{{Op: 10}}, api.ErrRange},
		{[]api.Node{{Op: math.MinInt}}, api.ErrRange},
		{[]api.Node{{Op: math.MaxInt}}, api.ErrRange},
		{[]api.Node{{Op: api.Star}}, api.ErrShape},
		{[]api.Node{{Op: api.Cat}, {Op: api.Empty}}, api.ErrShape},
		{[]api.Node{{Op: api.Empty}, {Op: api.Empty}}, api.ErrShape},
		{[]api.Node{classed}, api.ErrShape},
		{[]api.Node{classed, {Op: 10}}, api.ErrShape},
		{[]api.Node{{Op: 10}, classed}, api.ErrRange},
		{slices.Repeat([]api.Node{{Op: api.Opt}}, api.MaxNodes), api.ErrShape},
		{make([]api.Node, api.MaxNodes+1), api.ErrFull},
		{make([]api.Node, 100000), api.ErrFull},
	} {
		long := strings.Repeat("a", api.MaxText+1)
		for _, text := range []string{"", "a", long} {
			for _, by := range []string{"", "a", long} {
				refused(t, x.r, text, by, x.want)
			}
			refusedSplit(t, x.r, text, x.want)
		}
	}
}

// share tells whether two texts have a byte in the same memory.
func share(x, y string) bool {
	if x == "" || y == "" {
		return false
	}
	xs, ys := uintptr(unsafe.Pointer(unsafe.StringData(x))), uintptr(unsafe.Pointer(unsafe.StringData(y)))
	return xs < ys+uintptr(len(y)) && ys < xs+uintptr(len(x))
}

// P2, P4: what is told is the caller's, nothing is kept from call to call, and what lies behind a length is not read.
func TestFreshMemory(t *testing.T) {
	b := api.Node{Op: api.Byte, Class: class.Of("b")}
	all := []api.Node{{Op: api.Star}, {Op: api.Byte, Class: class.Of("a")}, {Op: 99}, b}
	before := slices.Clone(all)
	one, _ := Split(all[:2], "baabb")
	two, _ := Split(all[:2], "baabb")
	clear(one[:cap(one)])
	want := []string{"", "b", "", "b", "b", ""}
	if !slices.Equal(two, want) {
		t.Errorf("what was told became %q", two)
	}
	split(t, all[:2], "baabb", want...)
	replaced(t, all[:2], "baabb", "_", "_b__b_b_")
	if !slices.Equal(all, before) {
		t.Errorf("%v became %v", before, all)
	}
	all[1] = b
	split(t, all[:2], "baabb", "", "", "a", "a", "", "")
	for _, pattern := range []string{"a", "c", "^", "(aa)?"} {
		text, by := strings.Repeat("baab", 20), strings.Repeat("c", 10)
		pieces, _ := Split(parsed(t, pattern), text)
		whole, _ := Replace(parsed(t, pattern), text, by)
		for _, piece := range append(pieces, whole) {
			if share(piece, text) || share(piece, by) {
				t.Errorf("%s: %q shares memory with what was handed in", pattern, piece)
			}
		}
	}
}

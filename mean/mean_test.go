package mean

import (
	"fmt"
	"math"
	"regexp"
	"slices"
	"strings"
	"testing"

	"winnowfan/api"
	"winnowfan/class"
	"winnowfan/plain"
	"winnowfan/rex"
	"winnowfan/syn"
)

// table tells from which place to which one something fits: another way than the program's, which goes place by place.
type table [][]bool

func newTable(size int) table {
	x := make(table, size)
	for i := range x {
		x[i] = make([]bool, size)
	}
	return x
}

// each fills a table by a rule.
func each(size int, rule func(from, to int) bool) table {
	x := newTable(size)
	for from := range x {
		for to := range x {
			x[from][to] = rule(from, to)
		}
	}
	return x
}

func nothing(size int) table {
	return each(size, func(from, to int) bool { return from == to })
}

func either(a, b table) table {
	return each(len(a), func(from, to int) bool { return a[from][to] || b[from][to] })
}

func chained(a, b table) table {
	return each(len(a), func(from, to int) bool {
		for mid := range a {
			if a[from][mid] && b[mid][to] {
				return true
			}
		}
		return false
	})
}

// often goes on until nothing new is found.
func often(a table) table {
	x := nothing(len(a))
	for {
		more := either(x, chained(a, x))
		if fmt.Sprint(more) == fmt.Sprint(x) {
			return x
		}
		x = more
	}
}

// tableOf is M1's rules on tables; the second result is the place behind the part.
func tableOf(r []api.Node, i int, text string) (table, int) {
	size := len(text) + 1
	next := i + 1
	part := func() table {
		var x table
		x, next = tableOf(r, next, text)
		return x
	}
	var x table
	switch r[i].Op {
	case api.Byte:
		x = each(size, func(from, to int) bool { return to == from+1 && class.Has(r[i].Class, text[from]) })
	case api.Empty:
		x = nothing(size)
	case api.Begin:
		x = each(size, func(from, to int) bool { return from == 0 && to == 0 })
	case api.End:
		x = each(size, func(from, to int) bool { return from == len(text) && to == len(text) })
	case api.Cat:
		first := part()
		x = chained(first, part())
	case api.Or:
		first := part()
		x = either(first, part())
	case api.Opt:
		x = either(part(), nothing(size))
	case api.Star:
		x = often(part())
	case api.Plus:
		once := part()
		x = chained(once, often(once))
	}
	return x, next
}

// from is what Ends has to answer, by a table.
func (x table) from(place int) []int {
	var out []int
	for to, fits := range x[place] {
		if fits {
			out = append(out, to)
		}
	}
	return out
}

// asked holds both calls against a table, at each place of a text.
func asked(t *testing.T, r []api.Node, text string) {
	t.Helper()
	before := slices.Clone(r)
	want, _ := tableOf(r, 0, text)
	for from := range len(text) + 1 {
		if got, err := Ends(r, text, from); !slices.Equal(got, want.from(from)) || err != nil {
			t.Errorf("Ends(%v, %q, %d): got %v %v, want %v", r, text, from, got, err, want.from(from))
		}
	}
	if got, err := Yes(r, text); got != want[0][len(text)] || err != nil {
		t.Errorf("Yes(%v, %q): got %v %v", r, text, got, err)
	}
	if !slices.Equal(r, before) {
		t.Errorf("%v became %v", before, r)
	}
}

// refused holds Ends at a place against an error; with it, there is no place.
func refused(t *testing.T, r []api.Node, text string, from int, want api.Errno) {
	t.Helper()
	if got, err := Ends(r, text, from); got != nil || plain.Told(err) != want {
		t.Errorf("Ends(%v, %d bytes, %d): got %v %v, want %v", r, len(text), from, got, err, want)
	}
}

// refusedBoth holds both calls against an error that no place can mend.
func refusedBoth(t *testing.T, r []api.Node, text string, want api.Errno) {
	t.Helper()
	for _, from := range []int{math.MinInt, -1, 0, 1, len(text), len(text) + 1, math.MaxInt} {
		refused(t, r, text, from, want)
	}
	if got, err := Yes(r, text); got || plain.Told(err) != want {
		t.Errorf("Yes(%v, %d bytes): got %v %v, want %v", r, len(text), got, err, want)
	}
}

// parsed is the pattern of a text that is one.
func parsed(t *testing.T, text string) []api.Node {
	t.Helper()
	r, _, err := syn.Parse(text)
	if err != nil {
		t.Fatalf("Parse(%q): %v", text, err)
	}
	return r
}

// patterns are all of so many nodes, with two kinds of Byte.
func patterns(many int) [][]api.Node {
	var out [][]api.Node
	if many == 1 {
		for _, op := range []int{api.Empty, api.Begin, api.End} {
			out = append(out, []api.Node{{Op: op}})
		}
		return append(out, []api.Node{{Op: api.Byte, Class: class.Of("a")}}, []api.Node{{Op: api.Byte, Class: class.Of("ab")}})
	}
	if many < 1 {
		return nil
	}
	for _, part := range patterns(many - 1) {
		for _, op := range []int{api.Star, api.Plus, api.Opt} {
			out = append(out, append([]api.Node{{Op: op}}, part...))
		}
	}
	for firsts := 1; firsts < many-1; firsts++ {
		for _, first := range patterns(firsts) {
			for _, second := range patterns(many - 1 - firsts) {
				for _, op := range []int{api.Cat, api.Or} {
					out = append(out, slices.Concat([]api.Node{{Op: op}}, first, second))
				}
			}
		}
	}
	return out
}

// texts are all of at most so many bytes of a, b and c.
func texts(most int) []string {
	out := []string{""}
	for i := 0; i < len(out); i++ {
		for _, letter := range []string{"a", "b", "c"} {
			if len(out[i]) < most {
				out = append(out, out[i]+letter)
			}
		}
	}
	return out
}

// M1: every small pattern on short texts.
func TestSmallPatterns(t *testing.T) {
	for many, most := range map[int]int{1: 4, 2: 4, 3: 3, 4: 3} {
		for _, r := range patterns(many) {
			for _, text := range texts(most) {
				asked(t, r, text)
			}
		}
	}
	for _, r := range patterns(5) {
		for _, text := range []string{"", "aba", "bca"} {
			asked(t, r, text)
		}
	}
}

// M1: greater patterns on longer texts, with parts that may be nothing within such that repeat.
func TestGreaterPatterns(t *testing.T) {
	for _, pattern := range []string{
		"(a|ab)(c|bcd)*", "(a*)*b", "(a*b*)*c?", "((a|)+b?)+", "(^|a)*", "(^a|b$)+", "($|b)+a*", "(a|b|^|$)*",
		"(()*)*", "(^*$*)+", "(aa|aaa)*", "(aaa|aaaaa)+", "((ab)*a)*", "[^a]*a[^a]*", ".*b.", "a?a?a?aaa", "(a?b?c?)+d",
		"(^$)*", "^+", "(a+|b+)*c", "((a*)+)?", "a**", "a+*", "(b|a*)(a|b*)", "[]*a", "([]|a)+", "(a|[])?b$",
	} {
		for _, text := range []string{"", "a", "b", "ab", "aab", "abcd", "aaaaaaaaa", "abababa", "bbbabc", "cabcabdabca", "bca\nabc", "a\nb"} {
			asked(t, parsed(t, pattern), text)
		}
	}
}

// M1: ends, written out by hand.
func TestEnds(t *testing.T) {
	for _, x := range []struct {
		pattern, text string
		from          int
		want          []int
	}{
		{"a", "ab", 0, []int{1}},
		{"a", "ab", 1, nil},
		{"a", "ab", 2, nil},
		{"a", "", 0, nil},
		{"[]", "ab", 0, nil},
		{".", "\n", 0, nil},
		{"", "ab", 1, []int{1}},
		{"", "ab", 2, []int{2}},
		{"", "", 0, []int{0}},
		{"^", "ab", 0, []int{0}},
		{"^", "ab", 1, nil},
		{"^", "", 0, []int{0}},
		{"$", "ab", 0, nil},
		{"$", "ab", 1, nil},
		{"$", "ab", 2, []int{2}},
		{"$", "", 0, []int{0}},
		{"^a", "aa", 1, nil}, // the text begins at 0, wherever one asks
		{"^$", "", 0, []int{0}},
		{"$^", "", 0, []int{0}},
		{"$^", "a", 0, nil},
		{"a$", "aa", 0, nil},
		{"a$", "aa", 1, []int{2}},
		{"a$b", "ab", 0, nil},
		{"a^", "a", 0, nil},
		{"ab", "abab", 2, []int{4}},
		{"a|ab", "abc", 0, []int{1, 2}},
		{"ab|a", "abc", 0, []int{1, 2}}, // rising, whichever part is first
		{"a|a", "a", 0, []int{1}},       // once, by however many ways
		{"(a|ab)(c|bcd)", "abcd", 0, []int{3, 4}},
		{"(a|ab)(b|)", "ab", 0, []int{1, 2}},
		{"a?", "aa", 0, []int{0, 1}},
		{"a?", "b", 0, []int{0}},
		{"$?", "b", 0, []int{0}},
		{"a*", "aab", 0, []int{0, 1, 2}},
		{"a*", "aab", 1, []int{1, 2}},
		{"a*", "aab", 2, []int{2}},
		{"a*", "aab", 3, []int{3}},
		{"a+", "aab", 0, []int{1, 2}},
		{"a+", "aab", 2, nil},
		{"(aa|aaa)*", "aaaaaaa", 0, []int{0, 2, 3, 4, 5, 6, 7}},
		{"(aa|aaa)+", "aaaaaaa", 1, []int{3, 4, 5, 6, 7}},
		{"(ab)*", "ababa", 0, []int{0, 2, 4}},
		{"(a?)*", "aa", 0, []int{0, 1, 2}},
		{"(a?)+", "aa", 0, []int{0, 1, 2}},
		{"(^a|b)+", "abb", 0, []int{1, 2, 3}},
		{"(^a|b)+", "abb", 1, []int{2, 3}},
		{"(^a)*", "aaa", 0, []int{0, 1}},
		{"(a|$)+", "aa", 0, []int{1, 2}},
		{"$+", "a", 0, nil},
		{"$*", "a", 0, []int{0}},
		{`\x00\xff`, "\x00\xff", 0, []int{2}},
		{"[^\\x00-\\x7f]*", "é", 0, []int{0, 1, 2}}, // bytes, not letters
	} {
		if got, err := Ends(parsed(t, x.pattern), x.text, x.from); !slices.Equal(got, x.want) || err != nil {
			t.Errorf("Ends(%s, %q, %d): got %v %v, want %v", x.pattern, x.text, x.from, got, err, x.want)
		}
	}
}

// M1: a Byte takes each byte of its class, and no other one.
func TestEachByte(t *testing.T) {
	for b := range 256 {
		one := string([]byte{byte(b)})
		for _, text := range []string{one, string([]byte{byte(b + 1)}), string([]byte{byte(b + 64)})} {
			if got, err := Yes([]api.Node{{Op: api.Byte, Class: class.Of(one)}}, text); got != (text == one) || err != nil {
				t.Errorf("Yes(byte %d, %q): got %v %v", b, text, got, err)
			}
		}
	}
}

// M1: Yes asks for all of a text, held against another reader of patterns.
func TestYes(t *testing.T) {
	for _, pattern := range []string{
		"", "a", "a|b", "a*", "a+b?", "(a|b)*c", "(ab|ba)+", "^a*$", "(a|ab)(c|bc)?", "(a*)*", "(a*b?)+", "[^b]*b[a-c]", "(^|b)a*(c|$)",
	} {
		other := regexp.MustCompile(`\A(?:` + pattern + `)\z`)
		for _, text := range texts(5) {
			if got, err := Yes(parsed(t, pattern), text); got != other.MatchString(text) || err != nil {
				t.Errorf("Yes(%s, %q): got %v %v", pattern, text, got, err)
			}
		}
	}
}

// R2, M1: turned, a pattern fits backwards what it fits; what fits nothing somewhere may be nothing.
func TestTurned(t *testing.T) {
	for many := 1; many <= 4; many++ {
		for _, r := range patterns(many) {
			turned, _ := rex.Turn(r)
			may, _ := rex.Empty(r)
			for _, text := range []string{"", "a", "ab", "aab"} {
				back := []byte(text)
				slices.Reverse(back)
				there, _ := tableOf(r, 0, text)
				for from := range there {
					got, err := Ends(turned, string(back), len(text)-from)
					for to := range there {
						if slices.Contains(got, len(text)-to) != there[to][from] || err != nil {
							t.Errorf("%v on %q from %d to %d: %v, turned %v %v", r, text, to, from, there[to][from], got, err)
						}
					}
					if there[from][from] && !may {
						t.Errorf("%v fits nothing at %d of %q", r, from, text)
					}
				}
			}
		}
	}
}

// upTo are all numbers from one to another one.
func upTo(low, high int) []int {
	var out []int
	for i := low; i <= high; i++ {
		out = append(out, i)
	}
	return out
}

// M1: texts of as many bytes as there may be, with ends at each place, and patterns of as many nodes.
func TestGreatTexts(t *testing.T) {
	long := strings.Repeat("a", api.MaxText)
	stars := append(slices.Repeat([]api.Node{{Op: api.Star}}, api.MaxNodes-1), api.Node{Op: api.Byte, Class: class.Of("a")})
	pluses := append(slices.Repeat([]api.Node{{Op: api.Plus}}, api.MaxNodes-1), api.Node{Op: api.Byte, Class: class.Of("a")})
	nested := stars[api.MaxNodes-2:]
	for range 19 {
		nested = slices.Concat([]api.Node{{Op: api.Plus}, {Op: api.Cat}}, nested, []api.Node{{Op: api.Empty}})
	}
	for _, x := range []struct {
		r    []api.Node
		from int
		want []int
	}{
		{stars, 0, upTo(0, 400)},
		{pluses, 0, upTo(1, 400)},
		{stars, 399, upTo(399, 400)},
		{pluses, 400, nil},
		{nested, 0, upTo(0, 400)},
		{parsed(t, strings.Repeat("a*", 20)), 0, upTo(0, 400)},
		{parsed(t, strings.Repeat("a?", 20)), 63, upTo(63, 83)},
		{parsed(t, strings.Repeat("a?", 10)+strings.Repeat("a", 10)), 120, upTo(130, 140)},
		{parsed(t, "(((((a|a)+|a)+|a)+|a)+|a)*$"), 0, []int{400}},
		{parsed(t, "(((((a*)*b?)*)*c?)*)*"), 1, upTo(1, 400)},
		{parsed(t, "(((((a+)+)+)+)+)+b"), 0, nil},
	} {
		if got, err := Ends(x.r, long, x.from); !slices.Equal(got, x.want) || err != nil {
			t.Errorf("Ends(%v, 400 of a, %d): got %v %v, want %v", x.r, x.from, got, err, x.want)
		}
	}
	if got, err := Yes(stars, long); !got || err != nil {
		t.Errorf("Yes of 400 bytes: got %v %v", got, err)
	}
	if got, err := Yes(stars, long[1:]+"b"); got || err != nil {
		t.Errorf("Yes of 400 bytes, the last one another: got %v %v", got, err)
	}
}

// M1: 401 bytes are ErrFull, wherever one asks.
func TestFull(t *testing.T) {
	for _, many := range []int{api.MaxText + 1, 448, 449, 100000} {
		refusedBoth(t, []api.Node{{Op: api.Empty}}, strings.Repeat("a", many), api.ErrFull)
	}
}

// M1: from is from 0 to how many bytes.
func TestNoPlace(t *testing.T) {
	r := parsed(t, "a*")
	for _, text := range []string{"", "a", "aab", strings.Repeat("a", api.MaxText)} {
		for _, from := range []int{math.MinInt, -64, -1, len(text) + 1, len(text) + 64, math.MaxInt} {
			refused(t, r, text, from, api.ErrRange)
		}
		if got, err := Ends(r, text, len(text)); !slices.Equal(got, []int{len(text)}) || err != nil {
			t.Errorf("Ends at the end of %d bytes: got %v %v", len(text), got, err)
		}
	}
}

// M1: what is wrong with the pattern is told ahead of what is wrong with the text and the place.
func TestNoPattern(t *testing.T) {
	for _, x := range []struct {
		r    []api.Node
		want api.Errno
	}{
		{nil, api.ErrShape},
		{[]api.Node{}, api.ErrShape},
		{[]api.Node{{Op: 0}}, api.ErrRange},
		{[]api.Node{{Op: 10}}, api.ErrRange},
		{[]api.Node{{Op: math.MinInt}}, api.ErrRange},
		{[]api.Node{{Op: api.Star}}, api.ErrShape},
		{[]api.Node{{Op: api.Cat}, {Op: api.Empty}}, api.ErrShape},
		{[]api.Node{{Op: api.Empty}, {Op: api.Empty}}, api.ErrShape},
		{[]api.Node{{Op: api.Empty, Class: api.Class{1}}}, api.ErrShape},
		{slices.Repeat([]api.Node{{Op: api.Opt}}, api.MaxNodes+1), api.ErrFull},
	} {
		refusedBoth(t, x.r, "a", x.want)
		refusedBoth(t, x.r, "", x.want)
		refusedBoth(t, x.r, strings.Repeat("a", api.MaxText+1), x.want)
	}
}

// P2, P4: what is told is the caller's, nothing is kept from call to call, and what lies behind a length is not read.
func TestFreshMemory(t *testing.T) {
	all := append(parsed(t, "a*"), api.Node{Op: api.Byte, Class: class.Of("b")})
	before := slices.Clone(all)
	one, _ := Ends(all[:2], "aab", 0)
	for i := range one {
		one[i] = -1
	}
	two, err := Ends(all[:2], "aab", 0)
	if !slices.Equal(two, []int{0, 1, 2}) || !slices.Equal(one, []int{-1, -1, -1}) || err != nil {
		t.Errorf("asked again: got %v %v, and %v", two, err, one)
	}
	if !slices.Equal(all, before) {
		t.Errorf("%v became %v", before, all)
	}
	changed := slices.Clone(all[:2])
	changed[1].Class = class.Of("b")
	if got, err := Ends(changed, "aab", 0); !slices.Equal(got, []int{0}) || err != nil {
		t.Errorf("asked of another class: got %v %v", got, err)
	}
}

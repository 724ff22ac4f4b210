package set

import (
	"math"
	"slices"
	"strings"
	"testing"

	"winnowfan/api"
	"winnowfan/find"
	"winnowfan/lit"
	"winnowfan/mean"
	"winnowfan/plain"
	"winnowfan/syn"
)

// hit of a pattern, so that hits can be written in a line.
func hit(id, from, to int) api.Hit {
	return api.Hit{ID: id, Span: api.Span{From: from, To: to}}
}

// added holds Add against the number that it has to give.
func added(t *testing.T, s *Set, text string, want int) {
	t.Helper()
	if id, place, err := s.Add(text); id != want || place != 0 || err != nil {
		t.Errorf("Add(%.200q): got %d %d %v, want %d", text, id, place, err, want)
	}
}

// setOf patterns, which are numbered from 1 on.
func setOf(t *testing.T, patterns ...string) *Set {
	t.Helper()
	s := New()
	for i, text := range patterns {
		added(t, s, text, i+1)
	}
	return s
}

// notAdded holds Add against a place and an error; with it there is no number, and the set stays as it is.
func notAdded(t *testing.T, s *Set, text string, wantPlace int, want api.Errno) {
	t.Helper()
	before := s.List()
	if id, place, err := s.Add(text); id != 0 || place != wantPlace || plain.Told(err) != want {
		t.Errorf("Add(%.200q): got %d %d %v, want 0 %d %v", text, id, place, err, wantPlace, want)
	}
	listed(t, s, before...)
}

// removed holds Remove against what it has to tell.
func removed(t *testing.T, s *Set, id int, want api.Errno) {
	t.Helper()
	if err := s.Remove(id); plain.Told(err) != want {
		t.Errorf("Remove(%d): got %v, want %v", id, err, want)
	}
}

// listed holds List against the items that it has to tell.
func listed(t *testing.T, s *Set, want ...api.Item) {
	t.Helper()
	if got := s.List(); !slices.Equal(got, want) {
		t.Errorf("List: got %v, want %v", got, want)
	}
}

// scanned holds Scan and Tried against the hits and the number of patterns that they have to tell.
func scanned(t *testing.T, s *Set, text string, tried int, want ...api.Hit) {
	t.Helper()
	if got, err := s.Scan(text); !slices.Equal(got, want) || err != nil {
		t.Errorf("%v: Scan(%q): got %v %v, want %v", s.List(), text, got, err, want)
	}
	isTried(t, s, tried)
}

func isTried(t *testing.T, s *Set, want int) {
	t.Helper()
	if got := s.Tried(); got != want {
		t.Errorf("%v: Tried: got %d, want %d", s.List(), got, want)
	}
}

// refused holds Scan of a text that is too long against its error; with it, there are no hits, and none is tried.
func refused(t *testing.T, s *Set, text string) {
	t.Helper()
	before := s.Tried()
	if got, err := s.Scan(text); got != nil || plain.Told(err) != api.ErrFull {
		t.Errorf("Scan(%d bytes): got %v %v", len(text), got, err)
	}
	isTried(t, s, before)
}

// T1: numbers rise from 1 on, whatever is added.
func TestAdd(t *testing.T) {
	s := setOf(t, "ab*", "", "^$", `[^\x00]`, "ab*", "[]", "(((a)))", strings.Repeat("a", 30), "()|"+strings.Repeat("(a)", 20))
	added(t, s, strings.Repeat("(", 99)+"a"+strings.Repeat(")", 99), 10)
	added(t, s, strings.Repeat("a+", 20), 11)
	added(t, s, "a", 12)
}

// T1: a number never comes again, also that of the last one, or of one in a set that is empty again.
func TestNumbersNeverAgain(t *testing.T) {
	s := setOf(t, "a", "b", "c")
	removed(t, s, 3, api.OK)
	added(t, s, "c", 4)
	removed(t, s, 1, api.OK)
	added(t, s, "a", 5)
	for _, id := range []int{2, 4, 5} {
		removed(t, s, id, api.OK)
	}
	listed(t, s)
	added(t, s, "a", 6)
	listed(t, s, api.Item{ID: 6, Text: "a"})
	for id := 7; id < 1000; id++ {
		added(t, s, "a", id)
		removed(t, s, id, api.OK)
	}
	listed(t, s, api.Item{ID: 6, Text: "a"})
}

// T1: what is not added takes no number.
func TestWrongTakesNoNumber(t *testing.T) {
	s := New()
	notAdded(t, s, "a)", 1, api.ErrSyntax)
	notAdded(t, s, strings.Repeat("a", api.MaxPattern+1), 0, api.ErrFull)
	added(t, s, "a", 1)
	notAdded(t, s, "(", 1, api.ErrSyntax)
	removed(t, s, 2, api.ErrNone)
	added(t, s, "b", 2)
	for id := 3; id <= api.MaxSet; id++ {
		added(t, s, "c", id)
	}
	notAdded(t, s, "d", 0, api.ErrFull)
	removed(t, s, 1, api.OK)
	added(t, s, "e", api.MaxSet+1)
}

// T1, S2: Parse's place and error.
func TestAddWrong(t *testing.T) {
	many := strings.Repeat("a", 31) // 61 nodes
	for _, x := range []struct {
		text  string
		place int
		want  api.Errno
	}{
		{")", 0, api.ErrSyntax},
		{"a)", 1, api.ErrSyntax},
		{"*", 0, api.ErrSyntax},
		{"a|*", 2, api.ErrSyntax},
		{"(a", 2, api.ErrSyntax},
		{"[a", 2, api.ErrSyntax},
		{"[b-a]", 1, api.ErrSyntax},
		{"a\n", 1, api.ErrSyntax},
		{`ab\q`, 2, api.ErrSyntax},
		{`ab\`, 3, api.ErrSyntax},
		{"é", 0, api.ErrSyntax},
		{many + ")", 31, api.ErrSyntax},
		{strings.Repeat("a", api.MaxPattern-1) + ")", api.MaxPattern - 1, api.ErrSyntax},
		{strings.Repeat("(", api.MaxPattern), api.MaxPattern, api.ErrSyntax},
		{many, 0, api.ErrFull},
		{strings.Repeat("a", api.MaxPattern), 0, api.ErrFull},
		{strings.Repeat("a", api.MaxPattern+1), 0, api.ErrFull},
		{strings.Repeat(")", api.MaxPattern+1), 0, api.ErrFull},
		{strings.Repeat(")", 100000), 0, api.ErrFull},
	} {
		notAdded(t, New(), x.text, x.place, x.want)
		notAdded(t, setOf(t, "a", "b"), x.text, x.place, x.want)
		notAdded(t, full(t), x.text, x.place, x.want) // Parse's ahead of how many there are
	}
}

// full set, of as many patterns as there may be.
func full(t *testing.T) *Set {
	t.Helper()
	return setOf(t, slices.Repeat([]string{"a"}, api.MaxSet)...)
}

// T1: no more than 12, of those that are there.
func TestFull(t *testing.T) {
	s := full(t)
	for _, text := range []string{"", "a", "b", "^"} {
		notAdded(t, s, text, 0, api.ErrFull)
	}
	removed(t, s, 5, api.OK)
	added(t, s, "b", 13)
	notAdded(t, s, "b", 0, api.ErrFull)
	removed(t, s, 5, api.ErrNone)
	notAdded(t, s, "b", 0, api.ErrFull)
	for id := 13; id < 50; id++ {
		removed(t, s, id, api.OK)
		added(t, s, "b", id+1)
		notAdded(t, s, "b", 0, api.ErrFull)
	}
}

// T1: numbers that are none of the set's.
func TestRemoveNone(t *testing.T) {
	wrong := []int{0, -1, 4, 13, 100, math.MinInt, math.MaxInt, -3}
	for _, id := range append(wrong, 1, 2, 3) {
		removed(t, New(), id, api.ErrNone)
	}
	s := setOf(t, "a", "b", "c")
	for _, id := range wrong {
		removed(t, s, id, api.ErrNone)
	}
	listed(t, s, api.Item{ID: 1, Text: "a"}, api.Item{ID: 2, Text: "b"}, api.Item{ID: 3, Text: "c"})
	removed(t, s, 2, api.OK)
	for _, id := range append(wrong, 2) {
		removed(t, s, id, api.ErrNone)
	}
	listed(t, s, api.Item{ID: 1, Text: "a"}, api.Item{ID: 3, Text: "c"})
}

// T1: what is removed is not there any more, all others are; of two with one text only the one that is named goes.
func TestRemove(t *testing.T) {
	texts := []string{"a", "b", "a", "c"}
	var items []api.Item
	for i, text := range texts {
		items = append(items, api.Item{ID: i + 1, Text: text})
	}
	for gone := range texts {
		s := setOf(t, texts...)
		removed(t, s, gone+1, api.OK)
		removed(t, s, gone+1, api.ErrNone)
		listed(t, s, slices.Delete(slices.Clone(items), gone, gone+1)...)
		hits := slices.DeleteFunc([]api.Hit{hit(1, 1, 2), hit(2, 0, 1), hit(3, 1, 2), hit(4, 2, 3)}, func(h api.Hit) bool { return h.ID == gone+1 })
		scanned(t, s, "bac", 3, hits...)
	}
}

// T1: texts as they were added, not as they are printed; numbers rise.
func TestList(t *testing.T) {
	listed(t, New())
	texts := []string{"((a))", "", "[aab-b]", "(b|a)c*", "b", `\x61`, "a", "((a))", "[^]", "a|()", "zzz", "$^"}
	s := setOf(t, texts...)
	var want []api.Item
	for i, text := range texts {
		want = append(want, api.Item{ID: i + 1, Text: text})
	}
	listed(t, s, want...)
	listed(t, s, want...)
	removed(t, s, 1, api.OK)
	removed(t, s, 6, api.OK)
	removed(t, s, 12, api.OK)
	added(t, s, "((a))", 13)
	listed(t, s, append(slices.Concat(want[1:5], want[6:11]), api.Item{ID: 13, Text: "((a))"})...)
}

// T1: hits, written out by hand.
func TestScan(t *testing.T) {
	scanned(t, New(), "", 0)
	scanned(t, New(), "a", 0)
	for _, x := range []struct {
		patterns []string
		text     string
		want     []api.Hit
	}{
		{[]string{"ab*"}, "babb", []api.Hit{hit(1, 1, 4)}},
		{[]string{"ab*"}, "cc", nil},
		{[]string{"ab*"}, "", nil},
		{[]string{"ab*"}, "aba", []api.Hit{hit(1, 0, 2), hit(1, 2, 3)}},
		{[]string{""}, "", []api.Hit{hit(1, 0, 0)}},
		{[]string{"a*"}, "ba", []api.Hit{hit(1, 0, 0), hit(1, 1, 2), hit(1, 2, 2)}},
		// by the number, not by the place; none takes another one's
		{[]string{"b", "a"}, "ab", []api.Hit{hit(1, 1, 2), hit(2, 0, 1)}},
		{[]string{"a", "b"}, "ab", []api.Hit{hit(1, 0, 1), hit(2, 1, 2)}},
		{[]string{"b", "a"}, "abab", []api.Hit{hit(1, 1, 2), hit(1, 3, 4), hit(2, 0, 1), hit(2, 2, 3)}},
		{[]string{"abc", "b", "abcd"}, "abcd", []api.Hit{hit(1, 0, 3), hit(2, 1, 2), hit(3, 0, 4)}},
		{[]string{"a", "a", "a+"}, "aa", []api.Hit{hit(1, 0, 1), hit(1, 1, 2), hit(2, 0, 1), hit(2, 1, 2), hit(3, 0, 2)}},
		{[]string{"x", "a", "y"}, "a", []api.Hit{hit(2, 0, 1)}},
		{[]string{"^a", "a$", "^", "$", "^$"}, "aa", []api.Hit{hit(1, 0, 1), hit(2, 1, 2), hit(3, 0, 0), hit(4, 2, 2)}},
		{[]string{"^a", "a$", "^", "$", "^$"}, "", []api.Hit{hit(3, 0, 0), hit(4, 0, 0), hit(5, 0, 0)}},
		// bytes
		{[]string{`\xa9`, `\xc3\xa9`, "."}, "é\n", []api.Hit{hit(1, 1, 2), hit(2, 0, 2), hit(3, 0, 1), hit(3, 1, 2)}},
		{[]string{`\x00`, `[^\x00]+`}, "\x00\xff\x00", []api.Hit{hit(1, 0, 1), hit(1, 2, 3), hit(2, 1, 2)}},
		{[]string{"[]", "[^]"}, "a", []api.Hit{hit(2, 0, 1)}},
	} {
		s := setOf(t, x.patterns...)
		scanned(t, s, x.text, len(x.patterns), x.want...)
		s.Filter(true)
		got, err := s.Scan(x.text)
		if !slices.Equal(got, x.want) || err != nil {
			t.Errorf("%v: Scan(%q) with the filter: got %v %v, want %v", x.patterns, x.text, got, err, x.want)
		}
	}
}

// T1: hits have the numbers that Add gave, not those of the place in the list.
func TestScanNumbers(t *testing.T) {
	s := setOf(t, "a", "b", "c")
	removed(t, s, 1, api.OK)
	removed(t, s, 2, api.OK)
	added(t, s, "a", 4)
	scanned(t, s, "abc", 2, hit(3, 2, 3), hit(4, 0, 1))
	removed(t, s, 3, api.OK)
	scanned(t, s, "abc", 1, hit(4, 0, 1))
	removed(t, s, 4, api.OK)
	scanned(t, s, "abc", 0)
}

// T1: a text of more than 400 bytes, also for a set without a pattern.
func TestScanFull(t *testing.T) {
	for _, s := range []*Set{New(), setOf(t, "a"), setOf(t, "b", ""), full(t)} {
		for _, on := range []bool{false, true, false} {
			s.Filter(on)
			for _, many := range []int{api.MaxText + 1, 448, 100000} {
				refused(t, s, strings.Repeat("a", many))
			}
		}
	}
	long := strings.Repeat("a", api.MaxText)
	s := setOf(t, "a*", "b", "a$")
	refused(t, s, long+"a")
	scanned(t, s, long, 3, hit(1, 0, api.MaxText), hit(1, api.MaxText, api.MaxText), hit(3, api.MaxText-1, api.MaxText))
}

// T2: what is needed and does not stand in the text is not tried; at first, and when it is off, all are.
func TestFilter(t *testing.T) {
	s := setOf(t, "abc", "a(bcd)+e*", "x*", "[ab]c", "(x|y)c", "")
	all := []api.Hit{hit(1, 0, 3), hit(3, 0, 0), hit(3, 1, 1), hit(3, 2, 2), hit(3, 3, 3), hit(4, 1, 3), hit(6, 0, 0), hit(6, 1, 1), hit(6, 2, 2), hit(6, 3, 3)}
	scanned(t, s, "abc", 6, all...)
	s.Filter(true)
	scanned(t, s, "abc", 5, all...) // all but the second one, which needs bcd
	scanned(t, s, "", 2, hit(3, 0, 0), hit(6, 0, 0))
	scanned(t, s, "c", 4, hit(3, 0, 0), hit(3, 1, 1), hit(6, 0, 0), hit(6, 1, 1)) // c stands there, and yet neither is found
	scanned(t, s, "bcd", 5, hit(3, 0, 0), hit(3, 1, 1), hit(3, 2, 2), hit(3, 3, 3), hit(4, 0, 2), hit(6, 0, 0), hit(6, 1, 1), hit(6, 2, 2), hit(6, 3, 3))
	s.Filter(true)
	scanned(t, s, "", 2, hit(3, 0, 0), hit(6, 0, 0))
	s.Filter(false)
	scanned(t, s, "", 6, hit(3, 0, 0), hit(6, 0, 0))
	s.Filter(false)
	scanned(t, s, "abc", 6, all...)
}

// T2: which patterns are tried at a text, one by one.
func TestTriedOne(t *testing.T) {
	for _, x := range []struct {
		pattern, text string
		tried         int
	}{
		{"a", "a", 1}, {"a", "ba", 1}, {"a", "b", 0}, {"a", "", 0}, {"a", "A", 0},
		{"aba", "aba", 1}, {"aba", "abba", 0}, {"aba", "xxababb", 1}, {"aba", "ab", 0}, {"aba", "ba", 0},
		{"a+", "b", 0}, {"a+", "a", 1}, {"a*", "b", 1}, {"a?", "b", 1}, {"a|a", "b", 1}, {"", "", 1},
		{"[]", "a", 1}, {"[a]", "b", 0}, {"[ab]", "c", 1}, {".", "\n", 1}, {"[^]", "", 1},
		{"(abc).", "abc", 1}, {"(abc).", "ab", 0}, {"(ab)(x*)(cde)", "ab", 0}, {"(ab)(x*)(cde)", "cde", 1}, {"(ab)(x*)(cd)", "cd", 0},
		{"^(ab)$", "xabx", 1}, {"^(ab)$", "ba", 0}, {"^", "a", 1}, {"$a", "a", 1}, {"$a", "b", 0},
		{`\xa9`, "é", 1}, {`\xc3`, "\xa9", 0}, {`\x00`, "", 0}, {`\x00\x0a`, "\x00\n", 1},
	} {
		s := setOf(t, x.pattern)
		s.Filter(true)
		if _, err := s.Scan(x.text); err != nil {
			t.Errorf("Scan(%q): %v", x.text, err)
		}
		if got := s.Tried(); got != x.tried {
			t.Errorf("%s at %q: tried %d, want %d", x.pattern, x.text, got, x.tried)
		}
	}
}

// T2: several that need the same, or of which one needs what stands in what another one needs.
func TestTriedTogether(t *testing.T) {
	s := setOf(t, "ab", "ab", "(ab)[xy]", "a", "b", "abc", "(ab)+", "x*")
	s.Filter(true)
	ab := []api.Hit{hit(1, 0, 2), hit(2, 0, 2), hit(4, 0, 1), hit(5, 1, 2), hit(7, 0, 2), hit(8, 0, 0), hit(8, 1, 1), hit(8, 2, 2)}
	scanned(t, s, "ab", 7, ab...)
	scanned(t, s, "ba", 3, hit(4, 1, 2), hit(5, 0, 1), hit(8, 0, 0), hit(8, 1, 1), hit(8, 2, 2))
	scanned(t, s, "c", 1, hit(8, 0, 0), hit(8, 1, 1))
	removed(t, s, 2, api.OK)
	scanned(t, s, "c", 1, hit(8, 0, 0), hit(8, 1, 1))
	scanned(t, s, "ab", 6, slices.DeleteFunc(ab, func(h api.Hit) bool { return h.ID == 2 })...)
}

// T2: it tells of the last Scan without an error, whatever was done since.
func TestTriedStays(t *testing.T) {
	s := New()
	isTried(t, s, 0)
	added(t, s, "a", 1)
	added(t, s, "b", 2)
	isTried(t, s, 0)
	refused(t, s, strings.Repeat("a", api.MaxText+1))
	isTried(t, s, 0)
	scanned(t, s, "a", 2, hit(1, 0, 1))
	s.Filter(true)
	isTried(t, s, 2)
	refused(t, s, strings.Repeat("a", api.MaxText+1))
	isTried(t, s, 2)
	scanned(t, s, "a", 1, hit(1, 0, 1))
	s.Filter(false)
	added(t, s, "c", 3)
	notAdded(t, s, "c)", 1, api.ErrSyntax)
	removed(t, s, 1, api.OK)
	removed(t, s, 1, api.ErrNone)
	s.List()
	isTried(t, s, 1)
	isTried(t, s, 1)
	scanned(t, s, "a", 2)
	removed(t, s, 2, api.OK)
	removed(t, s, 3, api.OK)
	isTried(t, s, 2)
	scanned(t, s, "a", 0)
}

// alone are the hits of items, each of which is looked for by package find, and how many of them a text has what they need.
func alone(t *testing.T, items []api.Item, text string) (hits []api.Hit, needed int) {
	t.Helper()
	for _, item := range items {
		r, _, err := syn.Parse(item.Text)
		if err != nil {
			t.Fatalf("Parse(%s): %v", item.Text, err)
		}
		spans, err := find.All(r, text)
		if err != nil {
			t.Fatalf("find.All(%s, %q): %v", item.Text, text, err)
		}
		for _, span := range spans {
			hits = append(hits, api.Hit{ID: item.ID, Span: span})
		}
		if need, _ := lit.Needed(r); strings.Contains(text, need) {
			needed++
		}
	}
	return hits, needed
}

// T1, T2: nobody changes another one's, whatever was added and removed ahead: long ways of a set, held against a list.
func TestAnyWay(t *testing.T) {
	patterns := []string{"a", "ab*", "(ab|ba)+", "a*", "", "^b", "b$", "[^a]+", "abc", "(abc)+d?", ".*c.", "c(ab)+", "bca|cab", "[]", "a.*(bb).*c", "x", "(aaa)b*", "((a|)+b?)+", "(a|b)*a(a|b)(a|b)(a|b)(a|b)(a|b)(a|b)(a|b)"}
	wrong := []string{"a)", "[", "b**)", "(a", `\`}
	texts := []string{"", "a", "b", "abcabdab", "bbbab", "ccab", "aaabbbccc", "bca\nabc", "cabcabdabca", "xyz", strings.Repeat("abbab", 12)}
	for start := range 40 {
		number := uint32(start)
		next := func(below int) int {
			number = number*1664525 + 1013904223
			return int(number>>10) % below
		}
		s, last, on := New(), 0, false
		var items []api.Item
		for range 120 {
			switch what := next(10); {
			case what < 3 && len(items) < api.MaxSet:
				last++
				text := patterns[next(len(patterns))]
				added(t, s, text, last)
				items = append(items, api.Item{ID: last, Text: text})
			case what < 3:
				notAdded(t, s, patterns[next(len(patterns))], 0, api.ErrFull)
			case what < 4:
				text := wrong[next(len(wrong))]
				_, place, err := syn.Parse(text)
				notAdded(t, s, text, place, plain.Told(err))
			case what < 6:
				id := next(last + 2)
				i := slices.IndexFunc(items, func(item api.Item) bool { return item.ID == id })
				if i < 0 {
					removed(t, s, id, api.ErrNone)
				} else {
					removed(t, s, id, api.OK)
					items = slices.Delete(items, i, i+1)
				}
			case what < 7:
				on = !on
				s.Filter(on)
			default:
				text := texts[next(len(texts))]
				hits, tried := alone(t, items, text)
				if !on {
					tried = len(items)
				}
				scanned(t, s, text, tried, hits...)
			}
			listed(t, s, items...)
		}
	}
}

// T1: of whose way of coming to be nothing hangs: the same patterns, in which others were in between.
func TestWayOfComing(t *testing.T) {
	long := setOf(t, "ab", "x", "b*", "y", "z", "(a|b)+")
	long.Filter(true)
	for _, text := range []string{"", "xyz", "abab"} {
		if _, err := long.Scan(text); err != nil {
			t.Errorf("Scan(%q): %v", text, err)
		}
	}
	for _, id := range []int{4, 2, 5} {
		removed(t, long, id, api.OK)
	}
	long.Filter(false)
	short := setOf(t, "ab", "b*", "(a|b)+")
	for _, text := range []string{"", "ab", "babba", "cab"} {
		hits, err := short.Scan(text)
		if err != nil {
			t.Errorf("Scan(%q): %v", text, err)
		}
		for i := range hits {
			hits[i].ID = []int{0, 1, 3, 6}[hits[i].ID]
		}
		scanned(t, long, text, 3, hits...)
	}
}

// T2, L1, M1: what is not tried would not be found, at every short text.
func TestNotTriedNotFound(t *testing.T) {
	texts := []string{""}
	for i := 0; len(texts[i]) < 5; i++ {
		texts = append(texts, texts[i]+"a", texts[i]+"b", texts[i]+"c")
	}
	for _, pattern := range []string{"ab", "a+", "(ab)+c?", "(ab)(c|)", "[ab](bc)", "a(b|c)a", "^(aa)", "(bc)$", "(a|b)c(ab)*", "((ab)c*)+", "(ab)*", "c|ab"} {
		r, _, err := syn.Parse(pattern)
		if err != nil {
			t.Fatalf("Parse(%s): %v", pattern, err)
		}
		s := setOf(t, pattern)
		s.Filter(true)
		for _, text := range texts {
			hits, err := s.Scan(text)
			if err != nil {
				t.Fatalf("Scan(%q): %v", text, err)
			}
			fits := false
			for from := range len(text) + 1 {
				ends, _ := mean.Ends(r, text, from)
				fits = fits || len(ends) > 0
			}
			if fits != (len(hits) > 0) || fits && s.Tried() != 1 {
				t.Errorf("%s at %q: fits %v, tried %d, got %v", pattern, text, fits, s.Tried(), hits)
			}
		}
	}
}

// T1: as many patterns, nodes and bytes as there may be.
func TestGreat(t *testing.T) {
	wide := "(a|b)*a" + strings.Repeat("(a|b)", 13)
	text := strings.Repeat("aabab", api.MaxText/5)
	s := setOf(t, slices.Repeat([]string{wide}, api.MaxSet)...)
	hits, _ := alone(t, s.List(), text)
	scanned(t, s, text, api.MaxSet, hits...)
	s.Filter(true)
	scanned(t, s, text, api.MaxSet, hits...)
	scanned(t, s, strings.Repeat("b", api.MaxText), 0)
}

// P2: what comes out is the caller's, and no set has anything of another one's.
func TestFreshMemory(t *testing.T) {
	s, other := setOf(t, "a", "b"), setOf(t, "c")
	items := s.List()
	items[0] = api.Item{ID: 9, Text: "z"}
	items = append(items[:1], api.Item{ID: 8, Text: "y"})
	listed(t, s, api.Item{ID: 1, Text: "a"}, api.Item{ID: 2, Text: "b"})
	hits, _ := s.Scan("ab")
	again, _ := s.Scan("ab")
	hits[0] = hit(9, 9, 9)
	_ = append(hits[:1], hit(8, 8, 8))
	if !slices.Equal(again, []api.Hit{hit(1, 0, 1), hit(2, 1, 2)}) {
		t.Errorf("what was told became %v", again)
	}
	scanned(t, s, "ab", 2, hit(1, 0, 1), hit(2, 1, 2))
	before := s.List()
	removed(t, s, 1, api.OK)
	added(t, s, "d", 3)
	if !slices.Equal(before, []api.Item{{ID: 1, Text: "a"}, {ID: 2, Text: "b"}}) {
		t.Errorf("what was told became %v", before)
	}
	if !slices.Equal(items, []api.Item{{ID: 9, Text: "z"}, {ID: 8, Text: "y"}}) {
		t.Errorf("what was told became %v", items)
	}
	s.Filter(true)
	scanned(t, other, "x", 1)
	listed(t, other, api.Item{ID: 1, Text: "c"})
	added(t, other, "d", 2)
}

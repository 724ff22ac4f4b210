package words

import (
	"slices"
	"strings"
	"testing"

	"winnowfan/api"
	"winnowfan/plain"
)

// hit of a word, so that hits can be written in a line.
func hit(number, from, to int) api.Hit {
	return api.Hit{ID: number, Span: api.Span{From: from, To: to}}
}

// checked holds Check against what it has to tell, and that it leaves the words alone.
func checked(t *testing.T, words []string, want api.Errno) {
	t.Helper()
	before := slices.Clone(words)
	if err := Check(words); plain.Told(err) != want {
		t.Errorf("Check(%q): got %v, want %v", words, err, want)
	}
	if !slices.Equal(words, before) {
		t.Errorf("%q became %q", before, words)
	}
}

// found holds All against the hits that it has to tell; that there is none is nothing wrong.
func found(t *testing.T, words []string, text string, want []api.Hit) {
	t.Helper()
	before := slices.Clone(words)
	if got, err := All(words, text); !slices.Equal(got, want) || err != nil {
		t.Errorf("All(%q, %q): got %v %v, want %v", words, text, got, err, want)
	}
	if !slices.Equal(words, before) {
		t.Errorf("%q became %q", before, words)
	}
}

// refused holds All against an error; with it, there are no hits.
func refused(t *testing.T, words []string, text string, want api.Errno) {
	t.Helper()
	if got, err := All(words, text); got != nil || plain.Told(err) != want {
		t.Errorf("All(%.200q, %d bytes): got %v %v, want %v", words, len(text), got, err, want)
	}
}

// many words of which no two are the same.
func many(count int) []string {
	var out []string
	for i := range count {
		out = append(out, "w"+string(rune('a'+i/26))+string(rune('a'+i%26)))
	}
	return out
}

// long is a word of so many bytes.
func long(count int) string { return strings.Repeat("a", count) }

// W1: words that may be.
func TestCheck(t *testing.T) {
	for _, words := range [][]string{
		nil,
		{},
		{"a"},
		{"a", "b"},
		{"a", "A"},
		{"ab", "ba"},
		{"a", "aa", "aaa"},
		{"abc", "bc", "c", "ab", "b", "a"},
		{long(api.MaxWord)},
		{long(api.MaxWord), long(api.MaxWord - 1), "a"},
		{"\x00", "\xff", "\n", " ", "é", "\x00\x00"},
		{".", "*", "(", "a|b"},
		many(api.MaxWords),
	} {
		checked(t, words, api.OK)
	}
}

// W1: words that may not be, and which error is told first.
func TestCheckWrong(t *testing.T) {
	over := long(api.MaxWord + 1)
	for _, x := range []struct {
		words []string
		want  api.Errno
	}{
		{[]string{""}, api.ErrSyntax},
		{[]string{over}, api.ErrSyntax},
		{[]string{long(100000)}, api.ErrSyntax},
		{[]string{strings.Repeat("é", 11)}, api.ErrSyntax}, // 22 bytes
		{[]string{"a", ""}, api.ErrSyntax},
		{[]string{"a", over}, api.ErrSyntax},
		{[]string{"a", "a"}, api.ErrClash},
		{[]string{"a", "b", "a"}, api.ErrClash},
		{[]string{"a", "b", "b"}, api.ErrClash},
		{[]string{long(api.MaxWord), long(api.MaxWord)}, api.ErrClash},
		{append(many(api.MaxWords-1), "waa"), api.ErrClash},
		{append(many(api.MaxWords-1), "war"), api.ErrClash},
		// word by word
		{[]string{"a", "a", ""}, api.ErrClash},
		{[]string{"a", "a", over}, api.ErrClash},
		{[]string{"a", "", "a"}, api.ErrSyntax},
		{[]string{"", "a", "a"}, api.ErrSyntax},
		{[]string{"", ""}, api.ErrSyntax},
		{[]string{over, over}, api.ErrSyntax},
		// how many ahead of all of them
		{many(api.MaxWords + 1), api.ErrFull},
		{slices.Repeat([]string{"a"}, api.MaxWords+1), api.ErrFull},
		{slices.Repeat([]string{""}, api.MaxWords+1), api.ErrFull},
		{slices.Repeat([]string{over}, api.MaxWords+1), api.ErrFull},
		{make([]string, 100000), api.ErrFull},
		{slices.Repeat([]string{"a"}, api.MaxWords), api.ErrClash},
		{make([]string, api.MaxWords), api.ErrSyntax},
	} {
		checked(t, x.words, x.want)
		for _, text := range []string{"", "a", strings.Repeat("a", api.MaxText+1)} {
			refused(t, x.words, text, x.want) // the words ahead of the text
		}
	}
}

// W1: a text of more than 400 bytes.
func TestFull(t *testing.T) {
	for _, count := range []int{api.MaxText + 1, 448, 449, 100000} {
		text := strings.Repeat("a", count)
		for _, words := range [][]string{nil, {"a"}, {"b"}, many(api.MaxWords)} {
			refused(t, words, text, api.ErrFull)
		}
	}
}

// W1: hits, written out by hand.
func TestAll(t *testing.T) {
	for _, x := range []struct {
		words []string
		text  string
		want  []api.Hit
	}{
		{nil, "", nil},
		{nil, "ab", nil},
		{[]string{"a"}, "", nil},
		{[]string{"a"}, "b", nil},
		{[]string{"ab"}, "a", nil},
		{[]string{"ab"}, "b", nil},
		{[]string{"ab"}, "ba", nil},
		{[]string{"ab"}, "aAB", nil},
		{[]string{"a"}, "a", []api.Hit{hit(0, 0, 1)}},
		{[]string{"a"}, "baab", []api.Hit{hit(0, 1, 2), hit(0, 2, 3)}},
		{[]string{"ab"}, "aab", []api.Hit{hit(0, 1, 3)}},
		{[]string{"ab", "b"}, "abb", []api.Hit{hit(0, 0, 2), hit(1, 1, 2), hit(1, 2, 3)}},
		// a word within itself
		{[]string{"aa"}, "aaaa", []api.Hit{hit(0, 0, 2), hit(0, 1, 3), hit(0, 2, 4)}},
		{[]string{"aba"}, "ababa", []api.Hit{hit(0, 0, 3), hit(0, 2, 5)}},
		{[]string{"abab"}, "aababab", []api.Hit{hit(0, 1, 5), hit(0, 3, 7)}},
		// by where it ends, not where it begins
		{[]string{"abcd", "bc"}, "abcd", []api.Hit{hit(1, 1, 3), hit(0, 0, 4)}},
		{[]string{"bc", "abcd"}, "abcd", []api.Hit{hit(0, 1, 3), hit(1, 0, 4)}},
		{[]string{"abc", "a"}, "abc", []api.Hit{hit(1, 0, 1), hit(0, 0, 3)}},
		// at one place by the number, not by how long they are
		{[]string{"abc", "bc", "c"}, "abc", []api.Hit{hit(0, 0, 3), hit(1, 1, 3), hit(2, 2, 3)}},
		{[]string{"c", "bc", "abc"}, "abc", []api.Hit{hit(0, 2, 3), hit(1, 1, 3), hit(2, 0, 3)}},
		{[]string{"bc", "abc", "c"}, "abc", []api.Hit{hit(0, 1, 3), hit(1, 0, 3), hit(2, 2, 3)}},
		{[]string{"x", "c", "y", "abc"}, "abc", []api.Hit{hit(1, 2, 3), hit(3, 0, 3)}},
		// where a longer word is begun, and then it is another one
		{[]string{"abcx", "bcd"}, "abcd", []api.Hit{hit(1, 1, 4)}},
		{[]string{"abcx", "bcy", "cd"}, "abcd", []api.Hit{hit(2, 2, 4)}},
		{[]string{"abcx", "d"}, "abcd", []api.Hit{hit(1, 3, 4)}},
		{[]string{"aaab", "aab"}, "aaaab", []api.Hit{hit(0, 1, 5), hit(1, 2, 5)}},
		{[]string{"she", "he", "hers", "his"}, "ushers", []api.Hit{hit(0, 1, 4), hit(1, 2, 4), hit(2, 2, 6)}},
		// a word that another one has in its midst, which never ends
		{[]string{"abcd", "b"}, "abcx", []api.Hit{hit(1, 1, 2)}},
		// bytes
		{[]string{"é"}, "éé", []api.Hit{hit(0, 0, 2), hit(0, 2, 4)}},
		{[]string{"\xa9", "é"}, "aé", []api.Hit{hit(0, 2, 3), hit(1, 1, 3)}},
		{[]string{"\x00", "\xff\x00"}, "\x00\xff\x00", []api.Hit{hit(0, 0, 1), hit(0, 2, 3), hit(1, 1, 3)}},
		{[]string{"a\n", " "}, "a\n ", []api.Hit{hit(0, 0, 2), hit(1, 2, 3)}},
		{[]string{"a*", "."}, "aa*b.", []api.Hit{hit(0, 1, 3), hit(1, 4, 5)}}, // no patterns
	} {
		found(t, x.words, x.text, x.want)
	}
}

// oneByOne are the hits, by looking for each word at each place.
func oneByOne(words []string, text string) []api.Hit {
	var out []api.Hit
	for to := range len(text) + 1 {
		for number, word := range words {
			if strings.HasSuffix(text[:to], word) {
				out = append(out, hit(number, to-len(word), to))
			}
		}
	}
	return out
}

// texts are all of so many bytes, of two letters.
func texts(count int) []string {
	if count == 0 {
		return []string{""}
	}
	var out []string
	for _, text := range texts(count - 1) {
		out = append(out, text+"a", text+"b")
	}
	return out
}

// W1: every list of up to three short words, in each order: all at once, or one by one.
func TestEveryShortList(t *testing.T) {
	all := slices.Concat(texts(1), texts(2), texts(3))
	looked := append(texts(4), "", "a", "b", "aababbabaabbb", "abbabaaabbbaab")
	for _, one := range all {
		for _, two := range all {
			for _, three := range all {
				if one == two || one == three || two == three {
					continue
				}
				words := []string{one, two, three}
				for _, text := range looked {
					for count := range len(words) {
						found(t, words[:count+1], text, oneByOne(words[:count+1], text))
					}
				}
			}
		}
	}
}

// letters is a text of the first so many letters, told by numbers that come one of the other.
func letters(many, kinds int, number uint32) string {
	var out []byte
	for range many {
		number = number*1664525 + 1013904223
		out = append(out, 'a'+byte(int(number>>20)%kinds))
	}
	return string(out)
}

// pieces of a text, and of them turned round, as words of which no two are the same.
func pieces(text string, number int) []string {
	var out []string
	for i := 0; len(out) < api.MaxWords; i++ {
		many := 1 + (i*7+number)%api.MaxWord
		from := (i*i*13 + number*5) % (len(text) - many)
		word := []byte(text[from : from+many])
		if i%4 == 3 {
			slices.Reverse(word)
		}
		if !slices.Contains(out, string(word)) {
			out = append(out, string(word))
		}
	}
	return out
}

// W1: many words, in texts of which they are pieces.
func TestManyLists(t *testing.T) {
	for number := range 200 {
		text := letters(api.MaxText, 2+number%3, uint32(number))
		words := pieces(text, number)
		checked(t, words, api.OK)
		found(t, words, text, oneByOne(words, text))
	}
}

// W1: as many words, and as many bytes, as there may be.
func TestGreat(t *testing.T) {
	var rising []string
	for i := range api.MaxWords {
		rising = append(rising, long(i+1))
	}
	falling := slices.Clone(rising)
	slices.Reverse(falling)
	text := strings.Repeat("a", api.MaxText)
	for _, words := range [][]string{rising, falling} {
		want := oneByOne(words, text)
		if len(want) != 20*api.MaxText-190 {
			t.Fatalf("%d hits", len(want))
		}
		found(t, words, text, want)
		found(t, words, strings.Repeat("b", api.MaxText), nil)
	}
	found(t, []string{long(api.MaxWord)}, strings.Repeat("a", api.MaxWord-1), nil)
	last := long(api.MaxWord-1) + "b"
	found(t, []string{last}, text[:api.MaxText-1]+"b", []api.Hit{hit(0, api.MaxText-api.MaxWord, api.MaxText)})
}

// W1: every byte is a word of its own.
func TestEveryByte(t *testing.T) {
	var text []byte
	for b := range 256 {
		text = append(text, byte(b))
	}
	for b := range 256 {
		found(t, []string{"zz", string(text[b : b+1])}, string(text), []api.Hit{hit(1, b, b+1)})
	}
}

// P2, P4: what is told is the caller's, nothing is kept from call to call, and what lies behind a length is not read.
func TestFreshMemory(t *testing.T) {
	all := []string{"ab", "b", "", "ab", "a"}
	before := slices.Clone(all)
	checked(t, all[:2], api.OK)
	checked(t, all[:3], api.ErrSyntax)
	found(t, all[:2], "ab", []api.Hit{hit(0, 0, 2), hit(1, 1, 2)})
	one, _ := All(all[:2], "ab")
	two, _ := All(all[:2], "ab")
	clear(one[:cap(one)])
	if !slices.Equal(two, []api.Hit{hit(0, 0, 2), hit(1, 1, 2)}) {
		t.Errorf("what was told became %v", two)
	}
	found(t, all[:2], "ab", two)
	if !slices.Equal(all, before) {
		t.Errorf("%q became %q", before, all)
	}
	all[0] = "a"
	found(t, all[:2], "ab", []api.Hit{hit(0, 0, 1), hit(1, 1, 2)})
}

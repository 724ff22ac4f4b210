package class

import (
	"fmt"
	"strings"
	"testing"

	"winnowfan/api"
	"winnowfan/plain"
)

// edges are the bytes at which words, runs and spellings change.
const edges = "\x00\x01\x09\x0a\x0b\x1f\x20\x21\x3f\x40\x7e\x7f\x80\xbf\xc0\xfe\xff"

// bag is a class told byte by byte, so that no test leans on the bits.
type bag [256]bool

func bagOf(text string) bag {
	var g bag
	for _, b := range []byte(text) {
		g[b] = true
	}
	return g
}

func (g bag) text() string {
	var out []byte
	for b, in := range g {
		if in {
			out = append(out, byte(b))
		}
	}
	return string(out)
}

func (g bag) class() api.Class {
	var c api.Class
	for b, in := range g {
		if in {
			c[b>>6] |= uint64(1) << (b & 63)
		}
	}
	return c
}

// span is the text of all bytes from low to high.
func span(low, high int) string {
	var out []byte
	for b := low; b <= high; b++ {
		out = append(out, byte(b))
	}
	return string(out)
}

// samples are texts of classes: ordinary ones and edges.
func samples() []string {
	out := []string{"", edges, span(0, 255), span(0, 9) + span(11, 255), "abcx", "hello", "-^]", span(60, 70)}
	for _, b := range []byte(edges) {
		out = append(out, string([]byte{b}), span(int(b), 255), span(0, int(b)))
	}
	var seed uint32 = 1
	for range 40 {
		var g bag
		for b := range g {
			seed = seed*1664525 + 1013904223
			g[b] = seed>>31 == 1
		}
		out = append(out, g.text())
	}
	return out
}

// sameAs tells where a class and a bag differ.
func sameAs(t *testing.T, name string, c api.Class, want bag) {
	t.Helper()
	for b, in := range want {
		if Has(c, byte(b)) != in {
			t.Errorf("%s: Has %d: got %v, want %v", name, b, !in, in)
		}
	}
	if c != want.class() {
		t.Errorf("%s: got bits %x, want %x", name, c, want.class())
	}
}

// C1: Has asks one bit, and no other one.
func TestHas(t *testing.T) {
	for b := range 256 {
		c := bagOf(string([]byte{byte(b)})).class()
		for other := range 256 {
			if got := Has(c, byte(other)); got != (other == b) {
				t.Errorf("Has(class of %d, %d): got %v", b, other, got)
			}
		}
	}
}

// C1: Of has the bytes of a text, in any order, as often as they are there.
func TestOf(t *testing.T) {
	for _, text := range samples() {
		sameAs(t, fmt.Sprintf("Of(%q)", text), Of(text), bagOf(text))
	}
	if Of("cab") != Of("abcabc") {
		t.Error("Of hangs on order or number of bytes")
	}
	// A letter beyond ASCII is its bytes, and a text need be no letters.
	sameAs(t, "Of two bytes", Of("é"), bagOf("\xc3\xa9"))
	sameAs(t, "Of broken letters", Of("\xff\xc3"), bagOf("\xc3\xff"))
}

// C1: Range has both of its ends; high below low is ErrRange, with an empty class.
func TestRange(t *testing.T) {
	for low := range 256 {
		for high := range 256 {
			c, err := Range(byte(low), byte(high))
			want, wantErr := bagOf(span(low, high)).class(), api.OK
			if high < low {
				wantErr = api.ErrRange
			}
			if plain.Told(err) != wantErr || c != want {
				t.Errorf("Range(%d, %d): got %x %v, want %x %v", low, high, c, err, want, wantErr)
			}
		}
	}
}

// C1: Not has all others.
func TestNot(t *testing.T) {
	for _, text := range samples() {
		want := bagOf(text)
		for b := range want {
			want[b] = !want[b]
		}
		sameAs(t, fmt.Sprintf("Not(Of(%q))", text), Not(Of(text)), want)
	}
	if Not(api.Class{}) != Of(span(0, 255)) || Not(Of(span(0, 255))) != (api.Class{}) {
		t.Error("none and all are not each other's Not")
	}
}

// C1: Both has what both have, Either what one has at least.
func TestBothAndEither(t *testing.T) {
	for _, a := range samples() {
		for _, b := range samples() {
			ga, gb := bagOf(a), bagOf(b)
			var both, either bag
			for i := range ga {
				both[i], either[i] = ga[i] && gb[i], ga[i] || gb[i]
			}
			sameAs(t, fmt.Sprintf("Both(%q, %q)", a, b), Both(Of(a), Of(b)), both)
			sameAs(t, fmt.Sprintf("Either(%q, %q)", a, b), Either(Of(a), Of(b)), either)
		}
	}
}

// C1: Many counts each byte once.
func TestMany(t *testing.T) {
	for _, text := range samples() {
		if got, want := Many(Of(text)), len(bagOf(text).text()); got != want {
			t.Errorf("Many(Of(%q)): got %d, want %d", text, got, want)
		}
	}
	for n := range 257 {
		if got := Many(Of(span(0, n-1))); got != n {
			t.Errorf("Many of the first %d bytes: got %d", n, got)
		}
	}
}

// C2: the texts of classes, written out by hand.
func TestText(t *testing.T) {
	for _, x := range []struct{ bytes, want string }{
		{"", `[]`},
		{span(0, 255), `[\x00-\xff]`},
		{span(0, 9) + span(11, 255), `.`},
		{span(0, 8) + span(11, 255), `[\x00-\x08\x0b-\xff]`},
		{span(0, 9) + span(12, 255), `[\x00-\x09\x0c-\xff]`},
		{span(0, 9) + span(11, 254), `[\x00-\x09\x0b-\xfe]`},
		{span(1, 255), `[\x01-\xff]`},
		{span(0, 254), `[\x00-\xfe]`},
		{"a", `a`},
		{"ab", `[ab]`},
		{"ac", `[ac]`},
		{"abc", `[a-c]`},
		{"abcd", `[a-d]`},
		{"xcba", `[a-cx]`},
		{"abdeghi", `[abdeg-i]`},
		{"\x00\xff", `[\x00\xff]`},
		{"\x00\x01\xfe\xff", `[\x00\x01\xfe\xff]`},
		{"\x00\x01\x02\xfd\xfe\xff", `[\x00-\x02\xfd-\xff]`},
		{"\n\x1f \x7e\x7f", `[\x0a\x1f ~\x7f]`},
		{span(62, 65), `[>-A]`},
		{span(127, 128), `[\x7f\x80]`},
		{span(190, 194), `[\xbe-\xc2]`},
		{span(31, 33), `[\x1f-!]`},
		{span(32, 126), `[ -~]`},
		{"()*+", `[\(-\+]`},
		{"()", `[\(\)]`},
		{"+,-", `[\+-\-]`},
		{"-.", `[\-\.]`},
		{"^a", `[\^a]`},
		{`[\]`, `[\[-\]]`},
		{"$?|", `[\$\?\|]`},
		{"\xab\xcd", `[\xab\xcd]`},
	} {
		if got := Text(bagOf(x.bytes).class()); got != x.want {
			t.Errorf("Text of %q: got %s, want %s", x.bytes, got, x.want)
		}
	}
}

// spelt is a BYTE, told by list instead of by rule.
func spelt(b int) string {
	switch {
	case strings.Contains(`\ . [ ] ( ) | * + ? ^ $ -`, string(rune(b))) && b != ' ':
		return `\` + string(rune(b))
	case b >= 32 && b <= 126:
		return string(rune(b))
	}
	return fmt.Sprintf(`\x%02x`, b)
}

// C2: each byte alone, ahead of anything that leans on spelt.
func TestTextOfEachByte(t *testing.T) {
	for text, want := range map[string]string{
		"\x00": `\x00`, "\n": `\x0a`, "\x1f": `\x1f`, " ": ` `, "~": `~`, "\x7f": `\x7f`, "\x80": `\x80`, "\xff": `\xff`,
		`\`: `\\`, ".": `\.`, "[": `\[`, "]": `\]`, "(": `\(`, ")": `\)`, "|": `\|`,
		"*": `\*`, "+": `\+`, "?": `\?`, "^": `\^`, "$": `\$`, "-": `\-`,
		"{": `{`, "}": `}`, "/": `/`, ",": `,`, "x": `x`, "0": `0`, "\"": `"`, "_": `_`,
	} {
		if got := Text(bagOf(text).class()); got != want {
			t.Errorf("Text of %q: got %s, want %s", text, got, want)
		}
	}
	for b := range 256 {
		if got := Text(bagOf(span(b, b)).class()); got != spelt(b) {
			t.Errorf("Text of byte %d: got %s, want %s", b, got, spelt(b))
		}
	}
}

// C2: each run of bytes, alone.
func TestTextOfEachRun(t *testing.T) {
	for low := range 256 {
		for high := low + 1; high < 256; high++ {
			want := "[" + spelt(low) + "-" + spelt(high) + "]"
			if high == low+1 {
				want = "[" + spelt(low) + spelt(high) + "]"
			}
			if got := Text(bagOf(span(low, high)).class()); got != want {
				t.Errorf("Text of %d to %d: got %s, want %s", low, high, got, want)
			}
		}
	}
}

// C2: two classes never have one text.
func TestTextsDiffer(t *testing.T) {
	seen := map[string]api.Class{}
	for _, text := range samples() {
		for _, c := range []api.Class{Of(text), Not(Of(text))} {
			s := Text(c)
			if other, ok := seen[s]; ok && other != c {
				t.Errorf("%x and %x both have the text %s", other, c, s)
			}
			seen[s] = c
		}
	}
}

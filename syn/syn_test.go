package syn

import (
	"fmt"
	"regexp"
	"slices"
	"strings"
	"testing"

	"winnowfan/api"
	"winnowfan/class"
	"winnowfan/plain"
)

// tree is a pattern as its parts, so that no test leans on the order of nodes.
type tree struct {
	op   int
	bag  api.Class
	kids []*tree
}

func (x *tree) flat() []api.Node {
	out := []api.Node{{Op: x.op, Class: x.bag}}
	for _, kid := range x.kids {
		out = append(out, kid.flat()...)
	}
	return out
}

// bracketed has S1's rule written out: which parts stand in brackets, by what they are a part of.
var bracketed = map[int][2]string{
	api.Cat:  {"Empty Or Cat", "Empty Or"},
	api.Or:   {"Or", ""},
	api.Star: {"Empty Or Cat"},
	api.Plus: {"Empty Or Cat"},
	api.Opt:  {"Empty Or Cat"},
}

func (x *tree) name() string {
	return []string{"", "Byte", "Empty", "Cat", "Or", "Star", "Plus", "Opt", "Begin", "End"}[x.op]
}

// text is S1's Print, on a tree.
func (x *tree) text() string {
	return x.spelt(class.Text, func(of *tree, i int) bool {
		return slices.Contains(strings.Fields(bracketed[of.op][i]), of.kids[i].name())
	})
}

// spelt is a tree's text, with its classes told by one function, and brackets about the parts that another one tells.
func (x *tree) spelt(bag func(api.Class) string, about func(of *tree, i int) bool) string {
	parts := []any{}
	for i, kid := range x.kids {
		s := kid.spelt(bag, about)
		if about(x, i) {
			s = "(" + s + ")"
		}
		parts = append(parts, s)
	}
	if x.op == api.Byte {
		return bag(x.bag)
	}
	return fmt.Sprintf([]string{"", "", "", "%s%s", "%s|%s", "%s*", "%s+", "%s?", "^", "$"}[x.op], parts...)
}

// bags are classes of every kind of text.
var bags = []api.Class{
	class.Of("a"), class.Of("bcdx"), class.Not(class.Of("\n")), {}, class.Of("^-]"), class.Of("\\"), class.Of("\x00"),
	class.Not(api.Class{}), class.Not(class.Of("a")), class.Of("\xff"), class.Of("x"), class.Of("."), class.Of("ab"),
}

// trees are all patterns of so many nodes; classes are dealt out in turn.
func trees(many int) []*tree {
	var out []*tree
	dealt := 0
	for _, x := range shapes(many) {
		out = append(out, x.dealt(&dealt))
	}
	return out
}

func shapes(many int) []*tree {
	if many == 1 {
		return []*tree{{op: api.Byte}, {op: api.Empty}, {op: api.Begin}, {op: api.End}}
	}
	var out []*tree
	for _, kid := range shapes(many - 1) {
		for _, op := range []int{api.Star, api.Plus, api.Opt} {
			out = append(out, &tree{op: op, kids: []*tree{kid}})
		}
	}
	for left := 1; left < many-1; left++ {
		for _, a := range shapes(left) {
			for _, b := range shapes(many - 1 - left) {
				out = append(out, &tree{op: api.Cat, kids: []*tree{a, b}}, &tree{op: api.Or, kids: []*tree{a, b}})
			}
		}
	}
	return out
}

// dealt is a copy, as shapes share their parts.
func (x *tree) dealt(dealt *int) *tree {
	y := &tree{op: x.op}
	if x.op == api.Byte {
		y.bag = bags[*dealt%len(bags)]
		*dealt++
	}
	for _, kid := range x.kids {
		y.kids = append(y.kids, kid.dealt(dealt))
	}
	return y
}

var (
	symbolForm = regexp.MustCompile("^(?s:\\\\x[0-9a-f]{2}|\\\\[\\\\.\\[\\]()|*+?^$-]|[ !\"#%&',/0-9:;<=>@A-Z_a-z`{}~])")
	cutForm    = regexp.MustCompile(`^\\(x[0-9a-f]?)?$`)
)

// judged is S2's Parse by a stack and by forms of symbols; place is -1, if the text is a pattern's.
func judged(text string) (*tree, int) {
	stack := [][][]*tree{{nil}} // of each open bracket its chains
	for at := 0; at < len(text); {
		top := stack[len(stack)-1]
		chain := top[len(top)-1]
		var x *tree
		switch text[at] {
		case '(':
			stack = append(stack, [][]*tree{nil})
			at++
			continue
		case '|':
			stack[len(stack)-1] = append(top, nil)
			at++
			continue
		case ')':
			if len(stack) == 1 {
				return nil, at
			}
			stack, x = stack[:len(stack)-1], chosen(top)
			top = stack[len(stack)-1]
			at++
		case '*', '+', '?':
			if len(chain) == 0 {
				return nil, at
			}
			op := map[byte]int{'*': api.Star, '+': api.Plus, '?': api.Opt}[text[at]]
			chain[len(chain)-1] = &tree{op: op, kids: []*tree{chain[len(chain)-1]}}
			at++
			continue
		default:
			var bad int
			if x, at, bad = single(text, at); x == nil {
				return nil, bad
			}
		}
		top[len(top)-1] = append(top[len(top)-1], x)
	}
	if len(stack) > 1 {
		return nil, len(text)
	}
	return chosen(stack[0]), -1
}

// single is a part that has no brackets and no parts, and the place behind it; nil and a place, if it is none.
func single(text string, at int) (*tree, int, int) {
	switch text[at] {
	case '^':
		return &tree{op: api.Begin}, at + 1, 0
	case '$':
		return &tree{op: api.End}, at + 1, 0
	case '.':
		return &tree{op: api.Byte, bag: class.Not(class.Of("\n"))}, at + 1, 0
	case '[':
		return listed(text, at+1)
	}
	b, end := symbolAt(text, at)
	if b < 0 {
		return nil, 0, end
	}
	return &tree{op: api.Byte, bag: class.Of(string([]byte{byte(b)}))}, end, 0
}

// symbolAt is a byte and the place behind it; -1 and the place that is wrong, if it is none.
func symbolAt(text string, at int) (int, int) {
	s := symbolForm.FindString(text[at:])
	switch {
	case s == "" && (at == len(text) || cutForm.MatchString(text[at:])):
		return -1, len(text)
	case s == "":
		return -1, at
	case len(s) == 4:
		var b int
		fmt.Sscanf(s, `\x%x`, &b)
		return b, at + 4
	}
	return int(s[len(s)-1]), at + len(s)
}

// listed is a class from behind its first bracket on.
func listed(text string, at int) (*tree, int, int) {
	not := strings.HasPrefix(text[at:], "^")
	if not {
		at++
	}
	var in [256]bool
	for !strings.HasPrefix(text[at:], "]") {
		low, end := symbolAt(text, at)
		if low < 0 {
			return nil, 0, end
		}
		high := low
		if strings.HasPrefix(text[end:], "-") {
			if high, end = symbolAt(text, end+1); high < 0 {
				return nil, 0, end
			}
		}
		if high < low {
			return nil, 0, at
		}
		for b := low; b <= high; b++ {
			in[b] = true
		}
		at = end
	}
	x := &tree{op: api.Byte}
	for b := range in {
		if in[b] != not {
			x.bag[b/64] |= 1 << (b % 64)
		}
	}
	return x, at + 1, 0
}

func chosen(chains [][]*tree) *tree {
	var list []*tree
	for _, chain := range chains {
		if len(chain) == 0 {
			chain = []*tree{{op: api.Empty}}
		}
		list = append(list, leadingRight(api.Cat, chain))
	}
	return leadingRight(api.Or, list)
}

func leadingRight(op int, list []*tree) *tree {
	x := list[len(list)-1]
	for i := len(list) - 2; i >= 0; i-- {
		x = &tree{op: op, kids: []*tree{list[i], x}}
	}
	return x
}

// parsed holds Parse of a text against judged; with an error, there are no nodes.
func parsed(t *testing.T, text string) {
	t.Helper()
	var want []api.Node
	wantPlace, wantErr := 0, api.OK
	if x, bad := judged(text); len(text) > api.MaxPattern {
		wantErr = api.ErrFull
	} else if bad >= 0 {
		wantPlace, wantErr = bad, api.ErrSyntax
	} else if want = x.flat(); len(want) > api.MaxNodes {
		want, wantErr = nil, api.ErrFull
	}
	told(t, text, want, wantPlace, wantErr)
}

func told(t *testing.T, text string, want []api.Node, wantPlace int, wantErr api.Errno) {
	t.Helper()
	r, place, err := Parse(text)
	if !slices.Equal(r, want) || place != wantPlace || plain.Told(err) != wantErr {
		t.Errorf("Parse(%q): got %v %d %v, want %v %d %v", text, r, place, err, want, wantPlace, wantErr)
	}
	if err != nil && r != nil {
		t.Errorf("Parse(%q): nodes beside an error", text)
	}
}

func printed(t *testing.T, r []api.Node, want string, wantErr api.Errno) {
	t.Helper()
	before := slices.Clone(r)
	if got, err := Print(r); got != want || plain.Told(err) != wantErr {
		t.Errorf("Print(%v): got %q %v, want %q %v", r, got, err, want, wantErr)
	}
	if !slices.Equal(r, before) {
		t.Errorf("Print changed %v to %v", before, r)
	}
}

// byHand has texts as they are printed and their patterns, in letters: `a` a Byte of it, the others as in ops.
var byHand = []struct{ text, nodes string }{
	{``, `E`}, {`a`, `a`}, {`^`, `^`}, {`$`, `$`},
	{`ab`, `.ab`}, {`abc`, `.a.bc`}, {`(ab)c`, `..abc`}, {`(ab)cd`, `..ab.cd`}, {`((ab)c)d`, `...abcd`},
	{`a|b`, `|ab`}, {`a|b|c`, `|a|bc`}, {`(a|b)|c`, `||abc`}, {`(a|b)|c|d`, `||ab|cd`},
	{`a*`, `*a`}, {`a+`, `+a`}, {`a?`, `?a`}, {`a*+?`, `?+*a`}, {`a**`, `**a`}, {`^*`, `*^`}, {`$+`, `+$`},
	{`ab*`, `.a*b`}, {`(ab)*`, `*.ab`}, {`a*b`, `.*ab`}, {`(a|b)+`, `+|ab`}, {`a|b+`, `|a+b`},
	{`ab|cd`, `|.ab.cd`}, {`a(b|c)d`, `.a.|bcd`}, {`a(b|c)`, `.a|bc`}, {`(a|b)c`, `.|abc`},
	{`|`, `|EE`}, {`||`, `|E|EE`}, {`(|)|`, `||EEE`}, {`a|`, `|aE`}, {`|a`, `|Ea`}, {`a||b`, `|a|Eb`},
	{`()*`, `*E`}, {`()+`, `+E`}, {`()?`, `?E`}, {`()a`, `.Ea`}, {`a()`, `.aE`}, {`()()`, `.EE`}, {`a()b`, `.a.Eb`},
	{`(|)*`, `*|EE`}, {`(a|)*b?`, `.*|aE?b`}, {`^a$`, `.^.a$`}, {`a^$b`, `.a.^.$b`}, {`()a|`, `|.EaE`},
}

func nodesOf(letters string) []api.Node {
	ops := map[byte]int{'E': api.Empty, '.': api.Cat, '|': api.Or, '*': api.Star, '+': api.Plus, '?': api.Opt, '^': api.Begin, '$': api.End}
	var r []api.Node
	for i := range len(letters) {
		if op := ops[letters[i]]; op != 0 {
			r = append(r, api.Node{Op: op})
		} else {
			r = append(r, api.Node{Op: api.Byte, Class: class.Of(letters[i : i+1])})
		}
	}
	return r
}

// S1, S2: patterns and their texts, by hand.
func TestByHand(t *testing.T) {
	for _, x := range byHand {
		told(t, x.text, nodesOf(x.nodes), 0, api.OK)
		printed(t, nodesOf(x.nodes), x.text, api.OK)
	}
}

// S2: more brackets than are printed change nothing, but where they stand about other parts.
func TestMoreBrackets(t *testing.T) {
	for text, nodes := range map[string]string{
		`()`: `E`, `(())`: `E`, `(a)`: `a`, `((a))`: `a`, `(^)($)`: `.^$`, `(a)*`: `*a`, `(a*)`: `*a`, `(a*)*`: `**a`, `((a)*)+`: `+*a`,
		`()|a`: `|Ea`, `a|()`: `|aE`, `(|)`: `|EE`, `(()a)|`: `|.EaE`, `(a)(b)`: `.ab`, `a(bc)`: `.a.bc`, `(a)(b)(c)`: `.a.bc`, `(a(b(c)))`: `.a.bc`,
		`a|(b|c)`: `|a|bc`, `(ab)|(cd)`: `|.ab.cd`, `(a|b)`: `|ab`, `((a|b))c`: `.|abc`, `((ab))c`: `..abc`, `(())a`: `.Ea`, `(())*`: `*E`,
	} {
		told(t, text, nodesOf(nodes), 0, api.OK)
	}
}

// S1, S2: all small patterns: what is printed is read, also with brackets about every part and with classes told otherwise.
func TestEverySmallPattern(t *testing.T) {
	always := func(*tree, int) bool { return true }
	for many := 1; many <= 6; many++ {
		for _, x := range trees(many) {
			text, r := x.text(), x.flat()
			printed(t, r, text, api.OK)
			told(t, text, r, 0, api.OK)
			told(t, "("+x.spelt(class.Text, always)+")", r, 0, api.OK)
			told(t, "(("+text+"))", r, 0, api.OK)
			if otherwise := x.spelt(byTheOthers, always); len(otherwise) <= api.MaxPattern {
				told(t, otherwise, r, 0, api.OK)
			}
		}
	}
}

// byTheOthers tells a class by the bytes that it has not.
func byTheOthers(c api.Class) string {
	var out strings.Builder
	for b := 255; b >= 0; b-- {
		from := b
		for b >= 0 && !class.Has(c, byte(b)) {
			b--
		}
		if b < from {
			fmt.Fprintf(&out, `\x%02x-\x%02x`, b+1, from)
		}
	}
	return "[^" + out.String() + "]"
}

// everyText calls do with every text of a length of some letters.
func everyText(letters string, length int, do func(string)) {
	text := make([]byte, length)
	var fill func(int)
	fill = func(i int) {
		if i == length {
			do(string(text))
			return
		}
		for j := range len(letters) {
			text[i] = letters[j]
			fill(i + 1)
		}
	}
	fill(0)
}

// S2: every short text of some letters, whether it is a pattern's or not.
func TestEveryShortText(t *testing.T) {
	for _, letters := range []string{`a()|*`, `ab[]^-`, `\x6fa`, `[-\x6]`, `([a]).`, `+?$^-]`, "[~\x7f-]\\"} {
		for length := range 7 {
			everyText(letters, length, func(text string) { parsed(t, text) })
		}
	}
	for _, ahead := range []string{`[b-`, `[b-\x6`, `[^`, `(a[`, `a|(b*`} {
		everyText("ab\\x61-]()|*^", 3, func(text string) { parsed(t, ahead+text) })
	}
}

// S2: texts that are put together by chance, up to more than may be, and such with one byte another.
func TestLongTexts(t *testing.T) {
	pieces := []string{"a", "(", ")", ")", "|", "*", "?", "+", "^", "$", ".", `\.`, `\x0a`, "[a-c]", "[^b]", "[]", "(a)", "(b|", "ab", "c)", "z"}
	wrong := []string{"]", "-", "\\", "[", "{", "\n", "\xff", "x", "*", ")"}
	seed := uint32(7)
	dice := func(many int) int {
		seed = seed*1664525 + 1013904223
		return int(seed>>8) % many
	}
	fine := 0
	for range 3000 {
		var text string
		for range dice(30) + dice(2)*dice(60) {
			if next := text + pieces[dice(len(pieces))]; standsAhead(next) {
				text = next
			}
		}
		text += strings.Repeat(")", max(0, open(text)))
		if _, bad := judged(text); bad < 0 {
			fine++
		}
		parsed(t, text)
		at := dice(len(text) + 1)
		parsed(t, text[:at]+wrong[dice(len(wrong))]+text[at:])
		parsed(t, text[:at])
	}
	if fine < 2000 {
		t.Errorf("only %d of the texts are patterns'", fine)
	}
}

// standsAhead tells whether a text can still become a pattern's.
func standsAhead(text string) bool {
	_, bad := judged(text)
	return bad < 0 || bad == len(text)
}

func open(text string) int {
	text = strings.NewReplacer(`\.`, "", "[]", "").Replace(text)
	return strings.Count(text, "(") - strings.Count(text, ")")
}

// S2: places by hand.
func TestPlaces(t *testing.T) {
	for _, x := range []struct {
		text  string
		place int
	}{
		{`)`, 0}, {`a)`, 1}, {`a**)`, 3}, {`()())`, 4}, {`|)`, 1}, {`(a))b(`, 3},
		{`*`, 0}, {`+a`, 0}, {`?`, 0}, {`a|*`, 2}, {`(*)`, 1}, {`(a|+)`, 3}, {`|?`, 1}, {`()**(?`, 5},
		{`]`, 0}, {`a]`, 1}, {`-`, 0}, {`a-b`, 1}, {"a\n", 1}, {"\x7f", 0}, {"ab\x80", 2}, {"a\xc3\xa9", 1}, {"\x00", 0},
		{`(`, 1}, {`a(b`, 3}, {`((a)`, 4}, {`(a|`, 3}, {`(()*`, 4}, {`((`, 2}, {`(]`, 1}, {`(a]`, 2}, {`((*`, 2}, {`(\q`, 1}, {`(\x0g)`, 1},
		{`\`, 1}, {`a\`, 2}, {`\x`, 2}, {`\x1`, 3}, {`ab\x1`, 5}, {`(\x`, 3}, {`[\`, 2}, {`[\x`, 3}, {`[\xa`, 4}, {`[a-\`, 4}, {`[a-\x`, 5},
		{`\a`, 0}, {`a\n`, 1}, {`a\ `, 1}, {`\xg`, 0}, {`\x1g`, 0}, {`\xA0`, 0}, {`\x0A`, 0}, {`a\x1`, 4}, {`a\x1|`, 1}, {`\X41`, 0}, {`\{`, 0}, {"\\\n", 0},
		{`[`, 1}, {`[^`, 2}, {`[a`, 2}, {`[a-`, 3}, {`[a-b`, 4}, {`a[b`, 3}, {`([`, 2}, {`[[`, 1}, {`[a[`, 2}, {`[(]`, 1}, {`[a)]`, 2},
		{`[^^]`, 2}, {`[a^]`, 2}, {`((a))[b-d^]`, 9}, {`[.]`, 1}, {`[$]`, 1}, {`[*]`, 1}, {`[a|b]`, 2}, {"[\n]", 1}, {"[a-\xff]", 3},
		{`[-]`, 1}, {`[-a]`, 1}, {`[a-]`, 3}, {`[a--b]`, 3}, {`[a-b-c]`, 4}, {`[^-a]`, 2}, {`[a-^]`, 3}, {`[a-[]`, 3},
		{`[b-a]`, 1}, {`[b-a`, 1}, {`[b-a*`, 1}, {`x[ab-a]`, 3}, {`[^z-y]`, 2}, {`[a-zz-a]`, 4}, {`[\x62-\x61]`, 1}, {`[\]-\[]`, 1}, {`[\xff-a]`, 1},
		{`[b-\q]`, 3}, {`[b-\x0g]`, 3}, {`[\xffff-\x0]`, 8},
	} {
		told(t, x.text, nil, x.place, api.ErrSyntax)
		if _, bad := judged(x.text); bad != x.place {
			t.Errorf("the judge says %d of %q", bad, x.text)
		}
	}
}

// S2: a text that ends within a BYTE ends too early, also where no BYTE could come that is not below the first one.
func TestEndsWithinSecondByte(t *testing.T) {
	told(t, `[b-\x6`, nil, 6, api.ErrSyntax)
	told(t, `[b-\x5`, nil, 6, api.ErrSyntax)
	told(t, `[b-\x5f`, nil, 1, api.ErrSyntax)
	told(t, `[b-\x62`, nil, 7, api.ErrSyntax)
}

// S2: classes by hand.
func TestClasses(t *testing.T) {
	all := class.Not(api.Class{})
	for text, want := range map[string]api.Class{
		`.`: class.Not(class.Of("\n")), `[]`: {}, `[^]`: all, `[\x00-\xff]`: all, `[^\x00-\xff]`: {},
		`[a]`: class.Of("a"), `[^a]`: class.Not(class.Of("a")), `[aa]`: class.Of("a"), `[cba]`: class.Of("abc"), `[c-da-b]`: class.Of("abcd"),
		`[a-cb-d]`: class.Of("abcd"), `[a-a]`: class.Of("a"), `[^c-da]`: class.Not(class.Of("acd")), `[a\-c]`: class.Of("a-c"), `[\^]`: class.Of("^"),
		`[\+-\-]`: class.Of("+,-"), `[\x61-c]`: class.Of("abc"), `[\[-\]]`: class.Of(`[\]`), `[^\^]`: class.Not(class.Of("^")), `[^\x00-\xfe]`: class.Of("\xff"),
		`\x61`: class.Of("a"), `\x2e`: class.Of("."), `\.`: class.Of("."), `\-`: class.Of("-"), `\\`: class.Of(`\`), ` `: class.Of(" "), `[ ]`: class.Of(" "),
		`[^\x0a]`: class.Not(class.Of("\n")), `x`: class.Of("x"), `[x]`: class.Of("x"), `[{},]`: class.Of("{},"), `[a\x2db]`: class.Of("a-b"),
	} {
		told(t, text, []api.Node{{Op: api.Byte, Class: want}}, 0, api.OK)
	}
	told(t, `\x0a1`, []api.Node{{Op: api.Cat}, {Op: api.Byte, Class: class.Of("\n")}, {Op: api.Byte, Class: class.Of("1")}}, 0, api.OK)
}

// S1, S2: every byte, bare, with a backslash and by its digits, alone and in a class.
func TestEveryByte(t *testing.T) {
	for b := range 256 {
		one := string([]byte{byte(b)})
		r := []api.Node{{Op: api.Byte, Class: class.Of(one)}}
		hex, high := fmt.Sprintf(`\x%02x`, b), fmt.Sprintf(`\x%02X`, b)
		told(t, hex, r, 0, api.OK)
		told(t, "["+hex+"]", r, 0, api.OK)
		if high != hex {
			told(t, "a"+high, nil, 1, api.ErrSyntax)
			told(t, "[a"+high+"]", nil, 2, api.ErrSyntax)
		}
		special := strings.Contains(`\.[]()|*+?^$-`, one)
		bare := b >= 32 && b <= 126 && !special
		if special {
			told(t, `\`+one, r, 0, api.OK)
			told(t, `[\`+one+`]`, r, 0, api.OK)
			printed(t, r, `\`+one, api.OK)
		} else if b != 'x' {
			told(t, `a\`+one, nil, 1, api.ErrSyntax)
			told(t, `[a\`+one+`]`, nil, 2, api.ErrSyntax)
		}
		if bare {
			told(t, one, r, 0, api.OK)
			told(t, "["+one+"]", r, 0, api.OK)
			printed(t, r, one, api.OK)
		} else if one != "]" && one != `\` && one != "-" {
			told(t, "[a"+one+"]", nil, 2, api.ErrSyntax)
		}
		if !bare && !special {
			told(t, one, nil, 0, api.ErrSyntax)
			printed(t, r, hex, api.OK)
		}
	}
}

// S2: 200 bytes may be, 201 are ErrFull, whatever they are.
func TestLongestText(t *testing.T) {
	twoHundred := strings.Repeat("(", 99) + "a|" + strings.Repeat(")", 99)
	told(t, twoHundred, nodesOf(`|aE`), 0, api.OK)
	told(t, strings.Repeat("(", 100)+strings.Repeat(")", 100), nodesOf(`E`), 0, api.OK)
	told(t, twoHundred+"b", nil, 0, api.ErrFull)
	told(t, twoHundred+")", nil, 0, api.ErrFull)
	told(t, strings.Repeat(")", 201), nil, 0, api.ErrFull)
	told(t, strings.Repeat("(", 200), nil, 200, api.ErrSyntax)
	told(t, strings.Repeat("(", 1000000), nil, 0, api.ErrFull)
}

// S2: 60 nodes may be, 61 are ErrFull, but what is wrong with the text comes ahead of that.
func TestMostNodes(t *testing.T) {
	stars := strings.Repeat("*", 59)
	told(t, "a"+stars, nodesOf(stars+"a"), 0, api.OK)
	told(t, "a"+stars+"*", nil, 0, api.ErrFull)
	told(t, strings.Repeat("a", 30), nodesOf(strings.Repeat(".a", 29)+"a"), 0, api.OK)
	told(t, strings.Repeat("a", 30)+"*", nodesOf(strings.Repeat(".a", 29)+"*a"), 0, api.OK)
	told(t, strings.Repeat("a", 31), nil, 0, api.ErrFull)
	told(t, strings.Repeat("|", 29), nodesOf(strings.Repeat("|E", 29)+"E"), 0, api.OK)
	told(t, strings.Repeat("|", 30), nil, 0, api.ErrFull)
	told(t, strings.Repeat("|", 200), nil, 0, api.ErrFull)
	told(t, strings.Repeat("a", 200), nil, 0, api.ErrFull)
	told(t, strings.Repeat("a", 199)+")", nil, 199, api.ErrSyntax)
	told(t, strings.Repeat("a", 199)+"(", nil, 200, api.ErrSyntax)
}

// S1: a text of 200 bytes may be, of 201 is ErrFull, and what Check says comes ahead of that.
func TestPrintFull(t *testing.T) {
	var odd strings.Builder
	for b := 129; b < 129+2*49; b += 2 {
		odd.WriteByte(byte(b))
	}
	just := []api.Node{{Op: api.Byte, Class: class.Of(odd.String() + "ac")}}
	more := []api.Node{{Op: api.Byte, Class: class.Of(odd.String() + "ace")}}
	printed(t, just, class.Text(just[0].Class), api.OK)
	if n := len(class.Text(just[0].Class)); n != api.MaxPattern {
		t.Fatalf("the text has %d bytes", n)
	}
	told(t, class.Text(just[0].Class), just, 0, api.OK)
	printed(t, more, "", api.ErrFull)
	printed(t, append([]api.Node{{Op: api.Star}}, just...), "", api.ErrFull)
	printed(t, append([]api.Node{{Op: api.Star, Class: api.Class{1}}}, more...), "", api.ErrShape)
	printed(t, append([]api.Node{{Op: api.Cat}}, more...), "", api.ErrShape)
	printed(t, append([]api.Node{{Op: 10}}, more...), "", api.ErrRange)
	var greatest []api.Node
	for range 29 {
		greatest = append(greatest, api.Node{Op: api.Cat}, more[0])
	}
	printed(t, append(greatest, api.Node{Op: api.Plus}, more[0]), "", api.ErrFull)
}

// S1: what is no pattern is not printed.
func TestPrintOfNoPattern(t *testing.T) {
	printed(t, nil, "", api.ErrShape)
	printed(t, []api.Node{}, "", api.ErrShape)
	printed(t, []api.Node{{Op: 0}}, "", api.ErrRange)
	printed(t, []api.Node{{Op: -1}, {Op: api.Empty, Class: api.Class{1}}}, "", api.ErrRange)
	printed(t, []api.Node{{Op: api.Empty, Class: api.Class{1}}, {Op: -1}}, "", api.ErrShape)
	printed(t, nodesOf(`.a`), "", api.ErrShape)
	printed(t, nodesOf(`ab`), "", api.ErrShape)
	printed(t, nodesOf(`*`), "", api.ErrShape)
	printed(t, nodesOf(strings.Repeat("*", 60)+"a"), "", api.ErrFull)
	printed(t, make([]api.Node, 61), "", api.ErrFull)
	printed(t, nodesOf(strings.Repeat("*", 59)+"a"), "a"+strings.Repeat("*", 59), api.OK)
}

// P2, P4: what is parsed is the caller's, and what lies behind a list's length is not looked at.
func TestMemory(t *testing.T) {
	text := `(a|b)*c`
	one, _, _ := Parse(text)
	for i := range one {
		one[i] = api.Node{}
	}
	told(t, text, nodesOf(`.*|abc`), 0, api.OK)
	all := nodesOf(`.abc`)
	printed(t, all[:3], "ab", api.OK)
	printed(t, all[:2], "", api.ErrShape)
	if !slices.Equal(all, nodesOf(`.abc`)) {
		t.Errorf("what lies behind became %v", all)
	}
}

// P1, S2: every text of one byte or two.
func TestEveryTinyText(t *testing.T) {
	for a := range 256 {
		parsed(t, string([]byte{byte(a)}))
		for b := range 256 {
			parsed(t, string([]byte{byte(a), byte(b)}))
		}
	}
}

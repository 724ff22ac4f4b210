package prog

import (
	"fmt"
	"math"
	"slices"
	"strings"
	"testing"

	"winnowfan/api"
	"winnowfan/class"
	"winnowfan/mean"
	"winnowfan/plain"
	"winnowfan/rex"
	"winnowfan/syn"
)

// state is a step, and the place of the text at which it is come to.
type state struct{ step, at int }

// follow is chapter 6's rule for one step.
func follow(p []api.Step, text string, now state) []state {
	step := p[now.step]
	on := state{step.X, now.at}
	switch {
	case step.Op == api.Take && now.at < len(text) && class.Has(step.Class, text[now.at]):
		return []state{{step.X, now.at + 1}}
	case step.Op == api.Fork:
		return []state{on, {step.Y, now.at}}
	case step.Op == api.First && now.at == 0, step.Op == api.Last && now.at == len(text):
		return []state{on}
	}
	return nil
}

// endsOf are all places at which a program can come to its end.
func endsOf(p []api.Step, text string, from int) []int {
	seen := map[state]bool{{0, from}: true}
	var out []int
	for work := []state{{0, from}}; len(work) > 0; work = work[1:] {
		now := work[0]
		if p[now.step].Op == api.Done && !slices.Contains(out, now.at) {
			out = append(out, now.at)
		}
		for _, then := range follow(p, text, now) {
			if !seen[then] {
				seen[then] = true
				work = append(work, then)
			}
		}
	}
	slices.Sort(out)
	return out
}

// made is the program of a pattern, held against all that can be seen without running it.
func made(t *testing.T, r []api.Node) []api.Step {
	t.Helper()
	before := slices.Clone(r)
	p, err := Of(r)
	if err != nil || Check(p) != nil {
		t.Fatalf("Of(%v): got %v %v, which Check calls %v", r, p, err, Check(p))
	}
	if len(p) > 2*len(r)+1 {
		t.Errorf("Of(%v): got %d steps for %d nodes", r, len(p), len(r))
	}
	if !slices.Equal(r, before) {
		t.Errorf("%v became %v", before, r)
	}
	return p
}

// runs holds a pattern's program against the pattern, at each place of some texts.
func runs(t *testing.T, r []api.Node, texts ...string) {
	t.Helper()
	p := made(t, r)
	for _, text := range texts {
		for from := range len(text) + 1 {
			want, err := mean.Ends(r, text, from)
			if got := endsOf(p, text, from); !slices.Equal(got, want) || err != nil {
				t.Errorf("Of(%v) on %q from %d: ends at %v, want %v %v", r, text, from, got, want, err)
			}
		}
	}
}

// parsed is the pattern of a text that is one.
func parsed(t *testing.T, text string) []api.Node {
	t.Helper()
	r, _, err := syn.Parse(text)
	if err != nil {
		t.Fatalf("Parse(%q): %v", text, err)
	}
	return r
}

// small are all patterns of at most so many nodes, with two kinds of Byte: of all lists of nodes those that are one.
func small(most int) [][]api.Node {
	kinds := []api.Node{{Op: api.Byte, Class: class.Of("a")}, {Op: api.Byte, Class: class.Of("ab")}}
	for op := api.Empty; op <= api.End; op++ {
		kinds = append(kinds, api.Node{Op: op})
	}
	lists := [][]api.Node{nil}
	var out [][]api.Node
	for i := 0; i < len(lists); i++ {
		if rex.Check(lists[i]) == nil {
			out = append(out, lists[i])
		}
		for _, kind := range kinds {
			if len(lists[i]) < most {
				lists = append(lists, append(slices.Clone(lists[i]), kind))
			}
		}
	}
	return out
}

// P1: the program of every small pattern fits what the pattern fits.
func TestOfSmallPatterns(t *testing.T) {
	patterns := small(5)
	if want := 5 + 15 + 95 + 585 + 4105; len(patterns) != want { // by how many nodes they have
		t.Errorf("got %d patterns, want %d", len(patterns), want)
	}
	for _, r := range patterns {
		runs(t, r, "", "a", "b", "c", "ab", "aab", "caba")
	}
}

// P1: likewise of patterns with more parts than one in the other.
func TestOfPatterns(t *testing.T) {
	for _, pattern := range []string{
		"", "^", "$", "^$", "$^", "[]", "[]*", "a[]|b", ".", "a|b|c", "(a|b)|c", "a(b|c)d", "(a|)(|b)", "(|a)+", "(|)*",
		"(a|ab)(c|bcd)", "(ab|a)*b?", "((a|b)*c)+", "(a*)*", "(a+)+", "(a?)+", "(a*|b)+c?", "(a|b*)*", "((a?)?)?", "((a+)*)+",
		"(^a|b$)*", "(^|a)+($|b)", "(^)*a", "($|a)*", "(()*)+a", "(a|(b|(c|(d|))))+", "((((a)|b)|c)|d)*", "(ab)+(ba)*|(a|b)c?",
		"(aa|aaa)*", "(a?b?c?)+d", "[^a]*a[^a]*", "a**", "a+*?", "(b|a*)(a|b*)", "([]|a)+", "(a|[])?b$", "(ab?)*(b|$)",
	} {
		runs(t, parsed(t, pattern), "", "a", "b", "ab", "aab", "abcd", "aaaaaaa", "abababa", "bbbabc", "cabcabdabca", "bca\nabc")
	}
}

// P1: each byte is taken by the classes that have it alone.
func TestOfEachByte(t *testing.T) {
	for b := range 256 {
		one := string([]byte{byte(b)})
		others := []string{one, string([]byte{byte(b + 1)}), string([]byte{byte(b + 64)}), one + one}
		runs(t, []api.Node{{Op: api.Byte, Class: class.Of(one)}}, others...)
		runs(t, []api.Node{{Op: api.Byte, Class: class.Not(class.Of(one))}}, others...)
	}
}

// P1: patterns of as many nodes as there may be still have at most two steps for each, and one more.
func TestOfGreatPatterns(t *testing.T) {
	a := api.Node{Op: api.Byte, Class: class.Of("a")}
	long := strings.Repeat("a", 40)
	for op := api.Cat; op <= api.Opt; op++ {
		one := []api.Node{a}
		for {
			more := append([]api.Node{{Op: op}}, one...)
			if op == api.Cat || op == api.Or {
				more = append(more, a)
			}
			if len(more) > api.MaxNodes {
				break
			}
			one = more
		}
		runs(t, one, "", "a", long, long[1:]+"b")
	}
	for _, pattern := range []string{
		strings.Repeat("a?", 10) + strings.Repeat("a", 10), strings.Repeat("a*", 20), strings.Repeat("(a|b)", 15), "(((((a|a)+|a)+|a)+|a)+|a)*$",
		strings.Repeat("(", 13) + "a" + strings.Repeat("|b)*", 13), strings.Repeat("a|", 29) + "b",
	} {
		runs(t, parsed(t, pattern), "", "a", "ab", long, long[1:]+"b", strings.Repeat("ab", 10))
	}
}

// P1: what is wrong with a pattern is told, with no program.
func TestOfNoPattern(t *testing.T) {
	for _, x := range []struct {
		r    []api.Node
		want api.Errno
	}{
		{nil, api.ErrShape},
		{[]api.Node{}, api.ErrShape},
		{[]api.Node{{Op: 0}}, api.ErrRange},
		{[]api.Node{{Op: 10}}, api.ErrRange},
		{[]api.Node{{Op: math.MinInt}}, api.ErrRange},
		{[]api.Node{{Op: math.MaxInt}}, api.ErrRange},
		{[]api.Node{{Op: api.Plus}}, api.ErrShape},
		{[]api.Node{{Op: api.Or}, {Op: api.Empty}}, api.ErrShape},
		{[]api.Node{{Op: api.Empty}, {Op: api.Empty}}, api.ErrShape},
		{[]api.Node{{Op: api.Begin, Class: api.Class{0, 0, 0, 1}}}, api.ErrShape},
		{slices.Repeat([]api.Node{{Op: api.Empty}}, api.MaxNodes+1), api.ErrFull},
		{make([]api.Node, 100000), api.ErrFull},
	} {
		if got, err := Of(x.r); got != nil || plain.Told(err) != x.want {
			t.Errorf("Of(%d nodes): got %v %v, want %v", len(x.r), got, err, x.want)
		}
	}
}

// refused holds Check, and Text, which asks it, against an error, or against none.
func refused(t *testing.T, p []api.Step, want api.Errno) {
	t.Helper()
	before := slices.Clone(p)
	if err := Check(p); plain.Told(err) != want {
		t.Errorf("Check(%v): got %v, want %v", p, err, want)
	}
	if got, err := Text(p); plain.Told(err) != want || (got == "") != (want != api.OK) {
		t.Errorf("Text(%v): got %q %v, want %v", p, got, err, want)
	}
	if !slices.Equal(p, before) {
		t.Errorf("%v became %v", before, p)
	}
}

// fields of each Op, written out beside the program's rule.
var fields = map[int]string{1: "Class X", 2: "X Y", 3: "X", 4: "X", 5: "none"}

// wrong is what Check has to say of one step of a program of so many.
func wrong(step api.Step, many int) api.Errno {
	has, known := fields[step.Op]
	hasX, hasY := strings.Contains(has, "X"), strings.Contains(has, "Y")
	switch {
	case !known, hasX && (step.X < 0 || step.X >= many), hasY && (step.Y < 0 || step.Y >= many):
		return api.ErrRange
	case !hasX && step.X != 0, !hasY && step.Y != 0, !strings.Contains(has, "Class") && step.Class != api.Class{}:
		return api.ErrShape
	}
	return api.OK
}

// P1: each Op, with each field as it may be and as it may not, at each place of a program.
func TestCheckEachField(t *testing.T) {
	numbers := []int{math.MinInt, -1, 0, 1, 2, 3, 4, math.MaxInt}
	classes := []api.Class{{}, {1}, {0, 1 << 63}, {0, 0, 1}, {0, 0, 0, 1 << 63}, class.Not(api.Class{})}
	seen := map[api.Errno]int{}
	for _, op := range []int{math.MinInt, -1, 0, 1, 2, 3, 4, 5, 6, 7, math.MaxInt} {
		for _, x := range numbers {
			for _, y := range numbers {
				for _, c := range classes {
					for many := 1; many <= 3; many++ {
						for at := range many {
							p := slices.Repeat([]api.Step{{Op: api.Done}}, many)
							p[at] = api.Step{Op: op, Class: c, X: x, Y: y}
							want := wrong(p[at], many)
							seen[want]++
							refused(t, p, want)
						}
					}
				}
			}
		}
	}
	if seen[api.OK] == 0 || seen[api.ErrRange] == 0 || seen[api.ErrShape] == 0 || len(seen) != 3 {
		t.Errorf("the steps are all of a kind: %v", seen)
	}
}

// P1: programs and what is wrong with them, written out by hand.
func TestCheck(t *testing.T) {
	a := class.Of("a")
	for _, x := range []struct {
		p    []api.Step
		want api.Errno
	}{
		{nil, api.ErrNone},
		{[]api.Step{}, api.ErrNone},
		{[]api.Step{{Op: api.Done}}, api.OK},
		{[]api.Step{{Op: api.Done}, {Op: api.Done}}, api.OK},
		{[]api.Step{{Op: api.Take}}, api.OK}, // a program need have no end, and a class no byte
		{[]api.Step{{Op: api.Fork}}, api.OK}, // nor need it lead anywhere
		{[]api.Step{{Op: api.First}}, api.OK},
		{[]api.Step{{Op: api.Last}}, api.OK},
		{[]api.Step{{Op: api.Take, Class: a, X: 1}, {Op: api.Fork, X: 0, Y: 2}, {Op: api.Done}}, api.OK},
		{[]api.Step{{}}, api.ErrRange},
		{[]api.Step{{Op: 6}}, api.ErrRange},
		{[]api.Step{{Op: api.Take, Class: a, X: 1}}, api.ErrRange},
		{[]api.Step{{Op: api.Fork, X: 0, Y: 1}}, api.ErrRange},
		{[]api.Step{{Op: api.Fork, X: 1, Y: 0}}, api.ErrRange},
		{[]api.Step{{Op: api.First, X: -1}}, api.ErrRange},
		{[]api.Step{{Op: api.Last, X: 1}}, api.ErrRange},
		{[]api.Step{{Op: api.Done, X: 1}}, api.ErrShape}, // Done has no X that could be out of range
		{[]api.Step{{Op: api.Done, X: -1}}, api.ErrShape},
		{[]api.Step{{Op: api.Done, Y: 1}}, api.ErrShape},
		{[]api.Step{{Op: api.Done, Class: a}}, api.ErrShape},
		{[]api.Step{{Op: api.Take, Class: a, Y: 1}}, api.ErrShape},
		{[]api.Step{{Op: api.Fork, Class: a}}, api.ErrShape},
		{[]api.Step{{Op: api.First, Y: -1}}, api.ErrShape},
		{[]api.Step{{Op: api.Last, Class: a}}, api.ErrShape},
	} {
		refused(t, x.p, x.want)
	}
}

// P1, P3: of a step ErrRange is told ahead of ErrShape, but all of one step ahead of the next one.
func TestCheckOrder(t *testing.T) {
	far, odd := api.Step{Op: api.First, X: 9}, api.Step{Op: api.Done, Y: 1}
	both := api.Step{Op: api.Fork, X: 0, Y: 9, Class: api.Class{1}}
	fine := api.Step{Op: api.Done}
	refused(t, []api.Step{both}, api.ErrRange)
	refused(t, []api.Step{{Op: 6, X: 1, Y: 1, Class: api.Class{1}}}, api.ErrRange)
	refused(t, []api.Step{{Op: api.Take, X: 9, Y: 1}}, api.ErrRange)
	refused(t, []api.Step{odd, far}, api.ErrShape)
	refused(t, []api.Step{far, odd}, api.ErrRange)
	refused(t, []api.Step{fine, fine, odd, far, both}, api.ErrShape)
	refused(t, []api.Step{fine, both, odd}, api.ErrRange)
}

// P1: 200 steps may be, and lead to each other; 201 are ErrFull, whatever else is wrong.
func TestCheckGreatPrograms(t *testing.T) {
	most := slices.Repeat([]api.Step{{Op: api.Fork, X: api.MaxSteps - 1, Y: 0}}, api.MaxSteps)
	refused(t, most, api.OK)
	refused(t, most[1:], api.ErrRange)
	for _, step := range []api.Step{{Op: api.Done}, {}, {Op: api.Done, X: 1}, {Op: api.Last, X: 1000}} {
		refused(t, slices.Repeat([]api.Step{step}, api.MaxSteps+1), api.ErrFull)
		refused(t, slices.Repeat([]api.Step{step}, 2000), api.ErrFull)
	}
	most[api.MaxSteps-1].Y = api.MaxSteps
	refused(t, most, api.ErrRange)
}

// P4: what lies behind a length is neither read nor written.
func TestBehindLength(t *testing.T) {
	p := []api.Step{{Op: api.Fork, X: 0, Y: 1}, {Op: 77}}
	refused(t, p[:1], api.ErrRange)
	refused(t, p[:0], api.ErrNone)
	p[0].Y = 0
	refused(t, p[:1], api.OK)
	if p[1] != (api.Step{Op: 77}) {
		t.Errorf("what lies behind became %v", p[1])
	}
}

// P2: texts of programs, written out by hand.
func TestText(t *testing.T) {
	many := slices.Repeat([]api.Step{{Op: api.Done}}, 124)
	many[0] = api.Step{Op: api.Fork, X: 123, Y: 10}
	for _, x := range []struct {
		p    []api.Step
		want string
	}{
		{[]api.Step{{Op: api.Done}}, "done\n"},
		{[]api.Step{{Op: api.Take, Class: class.Of("a"), X: 1}, {Op: api.Done}}, "take a 1\ndone\n"},
		{[]api.Step{{Op: api.Take}}, "take [] 0\n"},
		{[]api.Step{{Op: api.Take, Class: class.Not(class.Of("\n"))}}, "take . 0\n"},
		{[]api.Step{{Op: api.Take, Class: class.Of(" ")}}, "take   0\n"},
		{[]api.Step{{Op: api.Take, Class: class.Of("\n")}}, "take \\x0a 0\n"},
		{[]api.Step{{Op: api.Take, Class: class.Of("abc-")}}, "take [\\-a-c] 0\n"},
		{[]api.Step{{Op: api.Fork}}, "fork 0 0\n"},
		{[]api.Step{{Op: api.Fork, X: 1}, {Op: api.Fork, Y: 1}}, "fork 1 0\nfork 0 1\n"},
		{[]api.Step{{Op: api.First, X: 1}, {Op: api.Last, X: 2}, {Op: api.Done}}, "first 1\nlast 2\ndone\n"},
		{[]api.Step{{Op: api.Done}, {Op: api.Last}, {Op: api.First}}, "done\nlast 0\nfirst 0\n"},
		{many, "fork 123 10\n" + strings.Repeat("done\n", 123)},
	} {
		if got, err := Text(x.p); got != x.want || err != nil {
			t.Errorf("Text(%v): got %q %v, want %q", x.p, got, err, x.want)
		}
	}
}

// read is the step of a line of a program's text.
func read(t *testing.T, line string) api.Step {
	t.Helper()
	var step api.Step
	word, rest, _ := strings.Cut(line, " ")
	switch word {
	case "take":
		blank := strings.LastIndex(rest, " ")
		step = api.Step{Op: api.Take, Class: parsed(t, rest[:blank])[0].Class}
		fmt.Sscan(rest[blank:], &step.X)
	case "fork":
		step = api.Step{Op: api.Fork}
		fmt.Sscan(rest, &step.X, &step.Y)
	case "first":
		step = api.Step{Op: api.First}
		fmt.Sscan(rest, &step.X)
	case "last":
		step = api.Step{Op: api.Last}
		fmt.Sscan(rest, &step.X)
	case "done":
		step = api.Step{Op: api.Done}
	}
	return step
}

// P2: from a program's text, the program can be told again.
func TestTextTellsAll(t *testing.T) {
	for _, pattern := range []string{"", "a", " *", "(a|[^b-d])+$", `^(\x0a|\x0b| )*\-?.`, strings.Repeat("(a|b)", 15)} {
		p := made(t, parsed(t, pattern))
		text, err := Text(p)
		lines := strings.SplitAfter(text, "\n")
		if err != nil || len(lines) != len(p)+1 || lines[len(p)] != "" {
			t.Fatalf("Text(%v): got %q %v", p, text, err)
		}
		for i, step := range p {
			if got := read(t, strings.TrimSuffix(lines[i], "\n")); got != step {
				t.Errorf("line %q: read %v, want %v", lines[i], got, step)
			}
		}
	}
}

// P2 of DOC.md: a program is the caller's, and hangs on the pattern alone.
func TestFreshMemory(t *testing.T) {
	all := append(parsed(t, "(a|b)*"), api.Node{Op: 99})
	r := all[:len(all)-1]
	one := made(t, r)
	want := slices.Clone(one)
	clear(one[:cap(one)])
	if two := made(t, r); !slices.Equal(two, want) {
		t.Errorf("made again: got %v, want %v", two, want)
	}
	if all[len(all)-1].Op != 99 {
		t.Errorf("what lies behind became %v", all[len(all)-1])
	}
	kept := made(t, r)
	clear(r)
	if !slices.Equal(kept, want) {
		t.Errorf("with its pattern changed a program became %v, want %v", kept, want)
	}
}

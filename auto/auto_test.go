package auto

import (
	"math"
	"slices"
	"strings"
	"testing"

	"winnowfan/api"
	"winnowfan/class"
	"winnowfan/mean"
	"winnowfan/plain"
	"winnowfan/prog"
	"winnowfan/sim"
	"winnowfan/syn"
)

// Steps, so that programs can be written in a line.
func take(letters string, x int) api.Step {
	return api.Step{Op: api.Take, Class: class.Of(letters), X: x}
}
func fork(x, y int) api.Step { return api.Step{Op: api.Fork, X: x, Y: y} }
func first(x int) api.Step   { return api.Step{Op: api.First, X: x} }
func last(x int) api.Step    { return api.Step{Op: api.Last, X: x} }

var done = api.Step{Op: api.Done}

// made is an auto of a program in which nothing is wrong.
func made(t *testing.T, p []api.Step) *Auto {
	t.Helper()
	before := slices.Clone(p)
	a, err := New(p)
	if a == nil || err != nil {
		t.Fatalf("New(%v): got %v %v", p, a, err)
	}
	if !slices.Equal(p, before) {
		t.Errorf("%v became %v", before, p)
	}
	if a.States() != 0 {
		t.Errorf("New(%v) has %d states", p, a.States())
	}
	return a
}

// parsed is a pattern, and the program of it.
func parsed(t *testing.T, pattern string) ([]api.Node, []api.Step) {
	t.Helper()
	r, _, err := syn.Parse(pattern)
	if err != nil {
		t.Fatalf("Parse(%s): %v", pattern, err)
	}
	p, err := prog.Of(r)
	if err != nil {
		t.Fatalf("Of(%s): %v", pattern, err)
	}
	return r, p
}

// ask holds an auto at a place against what it has to tell.
func ask(t *testing.T, a *Auto, text string, from, want int) {
	t.Helper()
	if got, err := a.Longest(text, from); got != want || err != nil {
		t.Errorf("Longest(%q, %d): got %d %v, want %d", text, from, got, err, want)
	}
	if a.States() < 1 || a.States() > 100 {
		t.Errorf("Longest(%q, %d): then there are %d states", text, from, a.States())
	}
}

// refused holds an auto against an error; with it, there is no place, and nothing is come to.
func refused(t *testing.T, a *Auto, text string, from int, want api.Errno) {
	t.Helper()
	before := a.States()
	if got, err := a.Longest(text, from); got != 0 || plain.Told(err) != want {
		t.Errorf("Longest(%d bytes, %d): got %d %v, want %v", len(text), from, got, err, want)
	}
	if a.States() != before {
		t.Errorf("Longest(%d bytes, %d): %d states became %d", len(text), from, before, a.States())
	}
}

// asSim holds one auto at each place of some texts, there and back again, against package sim.
func asSim(t *testing.T, p []api.Step, texts ...string) {
	t.Helper()
	a := made(t, p)
	back := slices.Clone(texts)
	slices.Reverse(back)
	for _, text := range append(back, texts...) {
		for from := range len(text) + 1 {
			want, err := sim.Longest(p, text, from)
			if err != nil {
				t.Fatalf("sim.Longest(%v, %q, %d): %v", p, text, from, err)
			}
			ask(t, a, text, from, want)
		}
	}
}

// A1: runs, written out by hand; each auto is asked all of them, one behind the other.
func TestLongest(t *testing.T) {
	type asked struct {
		text       string
		from, want int
	}
	for _, x := range []struct {
		p   []api.Step
		all []asked
	}{
		{[]api.Step{done}, []asked{{"", 0, 0}, {"ab", 0, 0}, {"ab", 1, 1}, {"ab", 2, 2}}},
		{[]api.Step{take("a", 1), done}, []asked{{"", 0, -1}, {"a", 0, 1}, {"a", 1, -1}, {"ba", 0, -1}, {"ba", 1, 2}, {"aa", 0, 1}}},
		{[]api.Step{take("a", 0), done}, []asked{{"aaa", 0, -1}, {"", 0, -1}}}, // it never leaves its first step
		{[]api.Step{fork(1, 2), take("a", 0), done}, []asked{{"aab", 0, 2}, {"aab", 2, 2}, {"aab", 3, 3}, {"aaaa", 1, 4}, {"", 0, 0}}},
		{[]api.Step{fork(1, 2), take("a", 3), take("a", 4), done, take("b", 3)}, []asked{{"ab", 0, 2}, {"aa", 0, 1}, {"a", 0, 1}, {"b", 0, -1}}},
		{[]api.Step{fork(0, 0), done}, []asked{{"a", 0, -1}, {"", 0, -1}}},
		// the same bytes, but where the text begins and ends is not the same
		{[]api.Step{first(1), done}, []asked{{"", 0, 0}, {"a", 0, 0}, {"a", 1, -1}, {"aa", 1, -1}, {"aa", 0, 0}}},
		{[]api.Step{last(1), done}, []asked{{"", 0, 0}, {"a", 0, -1}, {"a", 1, 1}, {"aa", 1, -1}, {"aa", 2, 2}}},
		{[]api.Step{last(1), first(2), done}, []asked{{"a", 0, -1}, {"a", 1, -1}, {"", 0, 0}, {"a", 0, -1}, {"aa", 1, -1}}},
		{[]api.Step{take("a", 1), last(2), done}, []asked{{"aa", 0, -1}, {"a", 0, 1}, {"ab", 0, -1}, {"aa", 1, 2}, {"aaa", 1, -1}}},
		{[]api.Step{take("a", 1), first(2), done}, []asked{{"a", 0, -1}, {"aa", 1, -1}}},
		{[]api.Step{fork(1, 3), take("a", 0), done, last(2)}, []asked{{"aab", 0, -1}, {"aa", 0, 2}, {"aab", 3, 3}, {"aa", 1, 2}, {"aab", 0, -1}}},
		{[]api.Step{fork(1, 3), take("a", 0), done, first(2)}, []asked{{"aa", 0, 0}, {"aa", 1, -1}, {"aa", 0, 0}}},
		{[]api.Step{fork(1, 2), take("\x00\xff", 0), done}, []asked{{"\x00\xff\x01", 0, 2}, {"\xff\xfe\x00", 0, 1}, {"é", 0, 0}}},
	} {
		a := made(t, x.p)
		for range 2 {
			for _, one := range x.all {
				ask(t, a, one.text, one.from, one.want)
			}
		}
	}
}

// stepsOf are all steps that a program of so many may have, with two kinds of Take.
func stepsOf(many int) []api.Step {
	out := []api.Step{done}
	for x := range many {
		out = append(out, take("a", x), take("bc", x), first(x), last(x))
		for y := range many {
			out = append(out, fork(x, y))
		}
	}
	return out
}

// A1: every small program, also such as come of no pattern, on short texts.
func TestSmallPrograms(t *testing.T) {
	texts := []string{"", "a", "b", "ab", "ba", "aab", "cba"}
	for _, one := range stepsOf(1) {
		asSim(t, []api.Step{one}, texts...)
	}
	for _, one := range stepsOf(2) {
		for _, two := range stepsOf(2) {
			asSim(t, []api.Step{one, two}, texts...)
		}
	}
	for _, one := range stepsOf(3) {
		for _, two := range stepsOf(3) {
			for _, three := range stepsOf(3) {
				asSim(t, []api.Step{one, two, three}, texts...)
			}
		}
	}
}

// mixed are programs of so many steps, told by numbers that come one of the other; the last step is done.
func mixed(many, programs int) [][]api.Step {
	kinds := stepsOf(many)
	number := uint32(1)
	var out [][]api.Step
	for range programs {
		var p []api.Step
		for range many - 1 {
			number = number*1664525 + 1013904223
			p = append(p, kinds[int(number>>8)%len(kinds)])
		}
		out = append(out, append(p, done))
	}
	return out
}

// A1: programs of some more steps.
func TestMixedPrograms(t *testing.T) {
	for _, p := range mixed(8, 3000) {
		asSim(t, p, "aabca", "cab", "bbcaab", "aabc")
	}
}

// letters is a text of a and b, told by numbers that come one of the other.
func letters(many int, number uint32) string {
	var out []byte
	for range many {
		number = number*1664525 + 1013904223
		out = append(out, 'a'+byte(number>>20&1))
	}
	return string(out)
}

// wide is a pattern of which an auto comes to some 2^many sets of steps: it has to know all of the last so many bytes.
func wide(many int) string {
	return "(a|b)*a" + strings.Repeat("(a|b)", many)
}

// A1, M1: what is known of a program tells what its pattern says.
func TestSameAsPatterns(t *testing.T) {
	texts := []string{"", "a", "b", "ab", "aab", "abcd", "aaaaaaaaa", "abababa", "bbbabc", "cabcabdabca", "bca\nabc", letters(60, 7)}
	for _, pattern := range []string{
		"(a|ab)(c|bcd)*", "(a*)*b", "(a*b*)*c?", "((a|)+b?)+", "(^|a)*", "(^a|b$)+", "($|b)+a*", "(a|b|^|$)*",
		"(()*)*", "(^*$*)+", "(aa|aaa)*", "(aaa|aaaaa)+", "((ab)*a)*", "[^a]*a[^a]*", ".*b.", "a?a?a?aaa", "(a?b?c?)+d",
		"(^$)*", "^+", "(a+|b+)*c", "((a*)+)?", "a**", "a+*", "(b|a*)(a|b*)", "[]*a", "([]|a)+", "(a|[])?b$", "^a*$", "$a*^",
		wide(2), wide(8), wide(8) + "$", "^" + wide(7),
	} {
		r, p := parsed(t, pattern)
		a := made(t, p)
		for range 2 {
			for _, text := range texts {
				for from := range len(text) + 1 {
					ends, err := mean.Ends(r, text, from)
					if err != nil {
						t.Fatalf("mean.Ends(%s, %q, %d): %v", pattern, text, from, err)
					}
					want := -1
					if len(ends) > 0 {
						want = slices.Max(ends)
					}
					ask(t, a, text, from, want)
				}
			}
		}
	}
}

// set is a set of steps, told another way than the program's: it goes through all steps until nothing new is found.
type set [api.MaxSteps]bool

func (s set) closed(p []api.Step, isFirst, isLast bool) set {
	for before := (set{}); before != s; {
		before = s
		for i, step := range p {
			if s[i] && (step.Op == api.Fork || step.Op == api.First && isFirst || step.Op == api.Last && isLast) {
				s[step.X] = true
			}
			if s[i] && step.Op == api.Fork {
				s[step.Y] = true
			}
		}
	}
	return s
}

// cameTo are the sets of steps to which a program comes, at a place of a text and all behind it, until there is no way.
func cameTo(p []api.Step, text string, from int) []set {
	now := set{0: true}.closed(p, from == 0, from == len(text))
	out := []set{now}
	for at := from; at < len(text) && now != (set{}); at++ {
		var next set
		for i, step := range p {
			if now[i] && step.Op == api.Take && step.Class[text[at]/64]>>(text[at]%64)&1 == 1 {
				next[step.X] = true
			}
		}
		now = next.closed(p, false, at+1 == len(text))
		out = append(out, now)
	}
	return out
}

// counter counts sets of steps as an auto has to.
type counter struct{ kept []set }

func (c *counter) came(all []set) (anew bool) {
	for _, one := range all {
		if slices.Contains(c.kept, one) {
			continue
		}
		if len(c.kept) == 100 {
			c.kept, anew = nil, true
		}
		c.kept = append(c.kept, one)
	}
	return anew
}

// counted holds the states of one auto, along some texts, against those that have to be, and tells how often it began
// anew.
func counted(t *testing.T, p []api.Step, texts ...string) int {
	t.Helper()
	a := made(t, p)
	var c counter
	times := 0
	for _, text := range texts {
		for from := range len(text) + 1 {
			want, _ := sim.Longest(p, text, from)
			ask(t, a, text, from, want)
			if c.came(cameTo(p, text, from)) {
				times++
			}
			if a.States() != len(c.kept) {
				t.Fatalf("%v at %q, %d: got %d states, want %d", p, text, from, a.States(), len(c.kept))
			}
		}
	}
	return times
}

// A1: it keeps the sets of steps that it came to, each once, and no other ones.
func TestStates(t *testing.T) {
	for _, x := range []struct {
		p    []api.Step
		text string
		from int
		want int
	}{
		{[]api.Step{done}, "", 0, 1},
		{[]api.Step{take("a", 0)}, "", 0, 1},
		{[]api.Step{take("a", 0)}, "aaaa", 0, 1},
		{[]api.Step{take("a", 0)}, "aaaab", 0, 2}, // the second one is empty
		{[]api.Step{take("a", 0)}, "baaaa", 0, 2},
		{[]api.Step{take("a", 0)}, "baaaa", 1, 1},
		{[]api.Step{take("a", 1), take("a", 0), done}, "aaaa", 0, 2},
		{[]api.Step{take("a", 1), take("b", 2), done}, "abcd", 0, 4},
		{[]api.Step{fork(1, 2), take("a", 0), done}, "aaaa", 0, 1},
		{[]api.Step{fork(1, 2), take("a", 0), last(3), done}, "aaaa", 0, 2},
		{[]api.Step{fork(1, 2), take("a", 0), last(3), done}, "aaaa", 4, 1},
		{[]api.Step{fork(1, 2), take("a", 0), first(3), done}, "aaaa", 0, 2},
		{[]api.Step{fork(1, 2), take("a", 0), first(3), done}, "aaaa", 1, 1},
	} {
		a := made(t, x.p)
		for range 3 {
			a.Longest(x.text, x.from)
			if got := a.States(); got != x.want {
				t.Errorf("Longest(%q, %d) of %v: got %d states, want %d", x.text, x.from, x.p, got, x.want)
			}
		}
	}
	for _, p := range mixed(6, 500) {
		counted(t, p, "aabca", "cab", "bbcaab")
	}
}

// A1: where each byte leads to a new set of steps, 100 of them are kept; with one more it begins anew.
func TestHundredStates(t *testing.T) {
	var p []api.Step
	for i := range 150 {
		p = append(p, take("a", i+1))
	}
	p = append(p, done)
	for _, x := range []struct{ bytes, longest, once, again int }{
		{0, -1, 1, 1},
		{1, -1, 2, 2},
		{98, -1, 99, 99},
		{99, -1, 100, 100},
		{100, -1, 1, 2},    // set 100 alone; then sets 0 to 98 as well, and of the rest 99 and 100
		{149, -1, 50, 100}, // sets 100 to 149; then 0 to 49 as well, and of the rest 50 to 149
		{150, 150, 51, 2},  // sets 100 to 150; then 0 to 48 as well, of the rest 49 to 148, and 149 and 150
	} {
		a := made(t, p)
		for _, want := range []int{x.once, x.again} {
			ask(t, a, strings.Repeat("a", x.bytes), 0, x.longest)
			if a.States() != want {
				t.Errorf("%d bytes: got %d states, want %d", x.bytes, a.States(), want)
			}
		}
	}
}

// A1: however often it begins anew, it answers the same.
func TestBeginsAnew(t *testing.T) {
	for _, x := range []struct {
		pattern string
		least   int
	}{
		{wide(7), 1}, {wide(8), 2}, {wide(12), 10}, {wide(9) + "$", 10}, {"^" + wide(11), 1}, {wide(3), 0},
	} {
		_, p := parsed(t, x.pattern)
		if times := counted(t, p, letters(200, 1), letters(120, 2), letters(200, 1)); times < x.least || x.least == 0 && times > 0 {
			t.Errorf("%s: it began anew %d times, and should have %d times at least", x.pattern, times, x.least)
		}
	}
}

// A1: what is known is not asked again: with no program at all, it answers what it was asked ahead.
func TestNotAskedAgain(t *testing.T) {
	_, p := parsed(t, "^?"+wide(4)+"$?")
	a := made(t, p)
	text := letters(50, 3) + "c"
	for from := range len(text) + 1 {
		a.Longest(text, from)
	}
	a.ways = sim.Ways{}
	for from := range len(text) + 1 {
		want, _ := sim.Longest(p, text, from)
		ask(t, a, text, from, want)
	}
}

// ring is a program of as many steps as there may be, in which each leads to the next one, the last to the first.
func ring(step func(next int) api.Step) []api.Step {
	var p []api.Step
	for i := range api.MaxSteps {
		p = append(p, step((i+1)%api.MaxSteps))
	}
	return p
}

// A1: as many steps and bytes as there may be.
func TestGreatPrograms(t *testing.T) {
	long := strings.Repeat("a", api.MaxText)
	takes := ring(func(next int) api.Step { return take("a", next) })
	asSim(t, takes, long)
	takes[api.MaxSteps-1] = done
	asSim(t, takes, long, long[:199], long[:198])
	asSim(t, ring(func(next int) api.Step { return fork(next, (next+1)%api.MaxSteps) }), long)
	apart := ring(func(next int) api.Step { return take("a", next) }) // on each second step the way parts, and meets again
	for i := 0; i < api.MaxSteps-2; i += 2 {
		apart[i] = fork(i+1, i+2)
	}
	apart[api.MaxSteps-2] = done
	asSim(t, apart, long)
	a := made(t, apart)
	ask(t, a, long, 0, 99)
	ask(t, a, long, 100, 199)
	ask(t, a, long, 350, 400)
	ask(t, a, long[1:]+"b", 350, 399)
	_, p := parsed(t, wide(8))
	asSim(t, p, letters(api.MaxText, 5))
}

// A1: what is wrong with a program is told by New.
func TestNoProgram(t *testing.T) {
	for _, x := range []struct {
		p    []api.Step
		want api.Errno
	}{
		{nil, api.ErrNone},
		{[]api.Step{}, api.ErrNone},
		{[]api.Step{{}}, api.ErrRange},
		{[]api.Step{{Op: 6}}, api.ErrRange},
		{[]api.Step{{Op: math.MinInt}}, api.ErrRange},
		{[]api.Step{done, take("a", 2)}, api.ErrRange}, // also where no way leads
		{[]api.Step{done, fork(0, -1)}, api.ErrRange},
		{[]api.Step{first(math.MaxInt)}, api.ErrRange},
		{[]api.Step{last(math.MinInt)}, api.ErrRange},
		{[]api.Step{{Op: api.Done, X: 1}}, api.ErrShape},
		{[]api.Step{done, {Op: api.Fork, Class: api.Class{1}}}, api.ErrShape},
		{[]api.Step{{Op: api.Done, Y: 1}, take("a", 2)}, api.ErrShape},
		{slices.Repeat([]api.Step{done}, api.MaxSteps+1), api.ErrFull},
		{make([]api.Step, 2000), api.ErrFull},
	} {
		if a, err := New(x.p); a != nil || plain.Told(err) != x.want {
			t.Errorf("New(%d steps): got %v %v, want %v", len(x.p), a, err, x.want)
		}
	}
	made(t, slices.Repeat([]api.Step{done}, api.MaxSteps))
}

// A1: 401 bytes are ErrFull, wherever one asks; from is from 0 to how many bytes; neither changes what is known.
func TestNoPlace(t *testing.T) {
	a := made(t, []api.Step{fork(1, 2), take("a", 0), done})
	for range 2 {
		for _, many := range []int{api.MaxText + 1, 448, 449, 100000} {
			for _, from := range []int{math.MinInt, -1, 0, 1, many, many + 1, math.MaxInt} {
				refused(t, a, strings.Repeat("a", many), from, api.ErrFull)
			}
		}
		for _, text := range []string{"", "a", "aab", strings.Repeat("a", api.MaxText)} {
			for _, from := range []int{math.MinInt, -64, -1, len(text) + 1, len(text) + 64, math.MaxInt} {
				refused(t, a, text, from, api.ErrRange)
			}
		}
		ask(t, a, "aab", 0, 2)
		ask(t, a, strings.Repeat("a", api.MaxText), 0, 400)
		ask(t, a, strings.Repeat("a", api.MaxText), 400, 400)
	}
}

// P2, P4: the program is not kept, two autos of it share nothing, and what lies behind a length is not read.
func TestFreshMemory(t *testing.T) {
	all := []api.Step{fork(1, 2), take("a", 0), done, {Op: 99}}
	a, b := made(t, all[:3]), made(t, all[:3])
	ask(t, a, "aab", 0, 2)
	if b.States() != 0 {
		t.Errorf("what one came to, another one keeps: %d", b.States())
	}
	all[1].Class = class.Of("b")
	ask(t, a, "aaaab", 2, 4)
	ask(t, b, "aab", 0, 2)
	ask(t, made(t, all[:3]), "aab", 2, 3)
	if all[3] != (api.Step{Op: 99}) {
		t.Errorf("it became %v", all[3])
	}
}

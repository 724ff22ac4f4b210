package sim

import (
	"math"
	"slices"
	"strings"
	"testing"

	"winnowfan/api"
	"winnowfan/class"
	"winnowfan/mean"
	"winnowfan/plain"
	"winnowfan/prog"
	"winnowfan/rex"
	"winnowfan/syn"
)

// Steps, so that programs can be written in a line.
func take(letters string, x int) api.Step {
	return api.Step{Op: api.Take, Class: class.Of(letters), X: x}
}
func fork(x, y int) api.Step { return api.Step{Op: api.Fork, X: x, Y: y} }
func first(x int) api.Step   { return api.Step{Op: api.First, X: x} }
func last(x int) api.Step    { return api.Step{Op: api.Last, X: x} }

var done = api.Step{Op: api.Done}

// ask holds both calls at a place against what they have to tell.
func ask(t *testing.T, p []api.Step, text string, from int, want []int) {
	t.Helper()
	before := slices.Clone(p)
	if got, err := Ends(p, text, from); !slices.Equal(got, want) || err != nil {
		t.Errorf("Ends(%v, %q, %d): got %v %v, want %v", p, text, from, got, err, want)
	}
	longest := -1
	if len(want) > 0 {
		longest = slices.Max(want)
	}
	if got, err := Longest(p, text, from); got != longest || err != nil {
		t.Errorf("Longest(%v, %q, %d): got %v %v, want %v", p, text, from, got, err, longest)
	}
	if !slices.Equal(p, before) {
		t.Errorf("%v became %v", before, p)
	}
}

// refused holds both calls against an error; with it, there is no place.
func refused(t *testing.T, p []api.Step, text string, from int, want api.Errno) {
	t.Helper()
	if got, err := Ends(p, text, from); len(got) != 0 || plain.Told(err) != want {
		t.Errorf("Ends(%d steps, %d bytes, %d): got %v %v, want %v", len(p), len(text), from, got, err, want)
	}
	if got, err := Longest(p, text, from); got != 0 || plain.Told(err) != want {
		t.Errorf("Longest(%d steps, %d bytes, %d): got %v %v, want %v", len(p), len(text), from, got, err, want)
	}
}

// table tells of each step and each place to which ends they lead.
type table [][][]bool

// leads adds to the ends of a step at a place those of another one, and tells whether there were new ones.
func (x table) leads(step, at, toStep, toAt int) bool {
	changed := false
	for end, is := range x[toStep][toAt] {
		if is && !x[step][at][end] {
			x[step][at][end], changed = true, true
		}
	}
	return changed
}

// once goes through all steps at all places, and tells whether anything new was found.
func (x table) once(p []api.Step, text string) bool {
	changed := false
	for i, step := range p {
		for at := range len(text) + 1 {
			switch step.Op {
			case api.Take:
				fits := at < len(text) && strings.IndexByte(all(step.Class), text[at]) >= 0
				changed = fits && x.leads(i, at, step.X, at+1) || changed
			case api.Fork:
				changed = x.leads(i, at, step.X, at) || changed
				changed = x.leads(i, at, step.Y, at) || changed
			case api.First:
				changed = at == 0 && x.leads(i, at, step.X, at) || changed
			case api.Last:
				changed = at == len(text) && x.leads(i, at, step.X, at) || changed
			case api.Done:
				changed = !x[i][at][at] || changed
				x[i][at][at] = true
			}
		}
	}
	return changed
}

// all are the bytes of a class.
func all(c api.Class) string {
	var out []byte
	for b := range 256 {
		if c[b/64]>>(b%64)&1 == 1 {
			out = append(out, byte(b))
		}
	}
	return string(out)
}

// tableOf goes on until nothing new is found: another way than the program's, which goes along the text.
func tableOf(p []api.Step, text string) table {
	x := make(table, len(p))
	for i := range x {
		x[i] = make([][]bool, len(text)+1)
		for at := range x[i] {
			x[i][at] = make([]bool, len(text)+1)
		}
	}
	for x.once(p, text) {
	}
	return x
}

// from is what Ends has to answer, by a table.
func (x table) from(place int) []int {
	var out []int
	for end, is := range x[0][place] {
		if is {
			out = append(out, end)
		}
	}
	return out
}

// held holds a program against its table, at each place of some texts.
func held(t *testing.T, p []api.Step, texts ...string) {
	t.Helper()
	for _, text := range texts {
		x := tableOf(p, text)
		for from := range len(text) + 1 {
			ask(t, p, text, from, x.from(from))
		}
	}
}

// stepsOf are all steps that a program of so many may have, with two kinds of Take.
func stepsOf(many int) []api.Step {
	out := []api.Step{done}
	for x := range many {
		out = append(out, take("a", x), take("bc", x), first(x), last(x))
		for y := range many {
			out = append(out, fork(x, y))
		}
	}
	return out
}

// programs are all of so many steps.
func programs(many int) [][]api.Step {
	out := [][]api.Step{nil}
	for range many {
		var longer [][]api.Step
		for _, p := range out {
			for _, step := range stepsOf(many) {
				longer = append(longer, append(slices.Clone(p), step))
			}
		}
		out = longer
	}
	return out
}

// I1: every small program, also such as come of no pattern, on short texts.
func TestSmallPrograms(t *testing.T) {
	for many, want := range map[int]int{1: 6, 2: 13 * 13, 3: 22 * 22 * 22} {
		all := programs(many)
		if len(all) != want {
			t.Errorf("got %d programs of %d steps, want %d", len(all), many, want)
		}
		for _, p := range all {
			held(t, p, "", "a", "b", "ab", "aba")
		}
	}
}

// I1: programs of some more steps, told by numbers that come one of the other.
func TestMixedPrograms(t *testing.T) {
	const many = 7
	kinds := stepsOf(many)
	number, found := uint32(1), 0
	for range 3000 {
		var p []api.Step
		for range many {
			number = number*1664525 + 1013904223
			p = append(p, kinds[int(number>>8)%len(kinds)])
		}
		p[many-1] = done
		held(t, p, "aabca", "cab")
		if ends, _ := Ends(p, "aabca", 0); len(ends) > 1 {
			found++
		}
	}
	if found < 20 {
		t.Errorf("only %d of the programs have more ends than one", found)
	}
}

// I1: ends, written out by hand.
func TestEnds(t *testing.T) {
	for _, x := range []struct {
		p    []api.Step
		text string
		from int
		want []int
	}{
		{[]api.Step{done}, "", 0, []int{0}},
		{[]api.Step{done}, "ab", 0, []int{0}},
		{[]api.Step{done}, "ab", 1, []int{1}},
		{[]api.Step{done}, "ab", 2, []int{2}},
		{[]api.Step{done, done}, "ab", 1, []int{1}},
		{[]api.Step{take("a", 1), done}, "", 0, nil}, // there is no byte behind the end
		{[]api.Step{take("a", 1), done}, "ab", 0, []int{1}},
		{[]api.Step{take("a", 1), done}, "ab", 1, nil},
		{[]api.Step{take("a", 1), done}, "ba", 1, []int{2}},
		{[]api.Step{take("a", 1), done}, "ba", 2, nil},
		{[]api.Step{take("", 1), done}, "ab", 0, nil},
		{[]api.Step{take("a", 0), done}, "aaa", 0, nil}, // it never leaves its first step
		{[]api.Step{take("ab", 1), take("b", 2), done}, "abb", 0, []int{2}},
		{[]api.Step{take("ab", 1), take("b", 2), done}, "abb", 1, []int{3}},
		{[]api.Step{take("ab", 1), take("b", 2), done}, "abb", 2, nil},
		{[]api.Step{take("a", 2), done, take("b", 1)}, "ab", 0, []int{2}}, // steps may lead back
		{[]api.Step{fork(1, 2), take("a", 0), done}, "aab", 0, []int{0, 1, 2}},
		{[]api.Step{fork(2, 1), take("a", 0), done}, "aab", 0, []int{0, 1, 2}}, // rising, whichever way is first
		{[]api.Step{fork(1, 2), take("a", 0), done}, "aab", 1, []int{1, 2}},
		{[]api.Step{fork(1, 2), take("a", 0), done}, "aab", 2, []int{2}},
		{[]api.Step{fork(1, 2), take("a", 0), done}, "aab", 3, []int{3}},
		{[]api.Step{fork(1, 2), take("a", 3), take("a", 3), done}, "a", 0, []int{1}}, // once, by however many ways
		{[]api.Step{fork(1, 2), done, done}, "a", 1, []int{1}},
		{[]api.Step{fork(1, 2), take("a", 3), take("a", 4), done, take("b", 3)}, "ab", 0, []int{1, 2}},
		{[]api.Step{fork(0, 0), done}, "a", 0, nil},
		{[]api.Step{fork(0, 1), done}, "a", 0, []int{0}},
		{[]api.Step{fork(1, 2), fork(0, 2), fork(0, 1)}, "a", 0, nil}, // round and round
		{[]api.Step{fork(1, 0), fork(0, 2), take("a", 1), done}, "aa", 0, nil},
		{[]api.Step{first(1), done}, "", 0, []int{0}},
		{[]api.Step{first(1), done}, "a", 0, []int{0}},
		{[]api.Step{first(1), done}, "a", 1, nil}, // the text begins at 0, wherever one asks
		{[]api.Step{first(0)}, "a", 0, nil},
		{[]api.Step{last(1), done}, "", 0, []int{0}},
		{[]api.Step{last(1), done}, "a", 0, nil},
		{[]api.Step{last(1), done}, "a", 1, []int{1}},
		{[]api.Step{last(0)}, "", 0, nil},
		{[]api.Step{last(1), first(2), done}, "", 0, []int{0}},
		{[]api.Step{last(1), first(2), done}, "a", 0, nil},
		{[]api.Step{last(1), first(2), done}, "a", 1, nil},
		{[]api.Step{take("a", 1), last(2), done}, "aa", 0, nil},
		{[]api.Step{take("a", 1), last(2), done}, "aa", 1, []int{2}},
		{[]api.Step{take("a", 1), first(2), done}, "aa", 0, nil},
		{[]api.Step{last(1), take("a", 2), done}, "a", 1, nil},
		{[]api.Step{fork(1, 3), take("a", 0), done, last(2)}, "aa", 0, []int{2}},
		{[]api.Step{fork(1, 3), take("a", 0), done, first(2)}, "aa", 0, []int{0}},
		{[]api.Step{take("\x00", 1), take("\xff", 2), done}, "\x00\xff", 0, []int{2}},
		{[]api.Step{fork(1, 2), take("\xc3\xa9", 0), done}, "é", 0, []int{0, 1, 2}}, // bytes, not letters
	} {
		ask(t, x.p, x.text, x.from, x.want)
	}
}

// I1: Take takes each byte of its class, and no other one.
func TestEachByte(t *testing.T) {
	for b := range 256 {
		one := string([]byte{byte(b)})
		other := []api.Step{{Op: api.Take, Class: class.Not(class.Of(one)), X: 1}, done}
		for c := range 256 {
			text := string([]byte{byte(c)})
			at, not := []int{1}, []int(nil)
			if b != c {
				at, not = not, at
			}
			ask(t, []api.Step{take(one, 1), done}, text, 0, at)
			ask(t, other, text, 0, not)
		}
	}
}

// patterns are all of at most so many nodes: of all lists of nodes those that are one.
func patterns(most int) [][]api.Node {
	kinds := []api.Node{{Op: api.Byte, Class: class.Of("a")}, {Op: api.Byte, Class: class.Of("ab")}}
	for op := api.Empty; op <= api.End; op++ {
		kinds = append(kinds, api.Node{Op: op})
	}
	lists := [][]api.Node{nil}
	var out [][]api.Node
	for i := 0; i < len(lists); i++ {
		if rex.Check(lists[i]) == nil {
			out = append(out, lists[i])
		}
		for _, kind := range kinds {
			if len(lists[i]) < most {
				lists = append(lists, append(slices.Clone(lists[i]), kind))
			}
		}
	}
	return out
}

// parsed is the pattern of a text that is one.
func parsed(t *testing.T, text string) []api.Node {
	t.Helper()
	r, _, err := syn.Parse(text)
	if err != nil {
		t.Fatalf("Parse(%q): %v", text, err)
	}
	return r
}

// same holds a pattern's program against the pattern, at each place of some texts.
func same(t *testing.T, r []api.Node, texts ...string) {
	t.Helper()
	p, err := prog.Of(r)
	if err != nil {
		t.Fatalf("Of(%v): %v", r, err)
	}
	for _, text := range texts {
		for from := range len(text) + 1 {
			want, err := mean.Ends(r, text, from)
			if err != nil {
				t.Fatalf("mean.Ends(%v, %q, %d): %v", r, text, from, err)
			}
			ask(t, p, text, from, want)
		}
	}
}

// P1, I1, M1: what a pattern says, and what its program does, are the same.
func TestSameAsPatterns(t *testing.T) {
	all := patterns(5)
	if want := 5 + 15 + 95 + 585 + 4105; len(all) != want { // by how many nodes they have
		t.Errorf("got %d patterns, want %d", len(all), want)
	}
	for _, r := range all {
		same(t, r, "", "a", "b", "ab", "aab", "caba")
	}
	for _, pattern := range []string{
		"(a|ab)(c|bcd)*", "(a*)*b", "(a*b*)*c?", "((a|)+b?)+", "(^|a)*", "(^a|b$)+", "($|b)+a*", "(a|b|^|$)*",
		"(()*)*", "(^*$*)+", "(aa|aaa)*", "(aaa|aaaaa)+", "((ab)*a)*", "[^a]*a[^a]*", ".*b.", "a?a?a?aaa", "(a?b?c?)+d",
		"(^$)*", "^+", "(a+|b+)*c", "((a*)+)?", "a**", "a+*", "(b|a*)(a|b*)", "[]*a", "([]|a)+", "(a|[])?b$",
	} {
		same(t, parsed(t, pattern), "", "a", "b", "ab", "aab", "abcd", "aaaaaaaaa", "abababa", "bbbabc", "cabcabdabca", "bca\nabc")
	}
}

// upTo are all numbers from one to another one.
func upTo(low, high int) []int {
	var out []int
	for i := low; i <= high; i++ {
		out = append(out, i)
	}
	return out
}

// ring is a program of as many steps as there may be, in which each leads to the next one, the last to the first.
func ring(step func(next int) api.Step) []api.Step {
	var p []api.Step
	for i := range api.MaxSteps {
		p = append(p, step((i+1)%api.MaxSteps))
	}
	return p
}

// I1: as many steps and bytes as there may be, with ways that meet again and again, and ways that lead round.
func TestGreatPrograms(t *testing.T) {
	long := strings.Repeat("a", api.MaxText)
	forks := ring(func(next int) api.Step { return fork(next, next) })
	takes := ring(func(next int) api.Step { return take("a", next) })
	both := ring(func(next int) api.Step { return fork(next, (next+1)%api.MaxSteps) })
	for _, from := range []int{0, 1, 63, 64, 399, 400} {
		ask(t, forks, long, from, nil)
		ask(t, takes, long, from, nil)
		ask(t, both, long, from, nil)
	}
	forks[api.MaxSteps-1] = done
	ask(t, forks, long, 400, []int{400})
	takes[api.MaxSteps-1] = done
	ask(t, takes, long, 0, []int{199})
	ask(t, takes, long, 201, []int{400})
	ask(t, takes, long, 202, nil)
	both[api.MaxSteps-1], both[api.MaxSteps-2] = take("a", 0), fork(api.MaxSteps-1, api.MaxSteps-3)
	both[api.MaxSteps-3] = done
	ask(t, both, long, 0, upTo(0, 400))
	ask(t, both, long, 137, upTo(137, 400))
	ask(t, both, long[1:]+"b", 0, upTo(0, 399))
	apart := ring(func(next int) api.Step { return take("a", next) }) // on each second step the way parts, and meets again
	for i := 0; i < api.MaxSteps-2; i += 2 {
		apart[i] = fork(i+1, i+2)
	}
	apart[api.MaxSteps-2] = done
	ask(t, apart, long, 100, upTo(100, 199))
	ask(t, apart, long, 350, upTo(350, 400))
}

// I1: patterns that lead to as many ways as there may be, on as many bytes.
func TestGreatPatterns(t *testing.T) {
	long := strings.Repeat("a", api.MaxText)
	for _, x := range []struct {
		pattern string
		from    int
		want    []int
	}{
		{strings.Repeat("a*", 20), 0, upTo(0, 400)},
		{strings.Repeat("a?", 20), 63, upTo(63, 83)},
		{strings.Repeat("a?", 10) + strings.Repeat("a", 10), 120, upTo(130, 140)},
		{"(((((a|a)+|a)+|a)+|a)+|a)*$", 0, []int{400}},
		{"(((((a*)*b?)*)*c?)*)*", 1, upTo(1, 400)},
		{"(((((a+)+)+)+)+)+b", 0, nil},
	} {
		p, err := prog.Of(parsed(t, x.pattern))
		if err != nil {
			t.Fatalf("Of(%s): %v", x.pattern, err)
		}
		ask(t, p, long, x.from, x.want)
	}
}

// places are some that may be, and some that may not.
func places(text string) []int {
	return []int{math.MinInt, -1, 0, 1, len(text), len(text) + 1, math.MaxInt}
}

// I1: 401 bytes are ErrFull, wherever one asks.
func TestFull(t *testing.T) {
	for _, many := range []int{api.MaxText + 1, 448, 449, 100000} {
		text := strings.Repeat("a", many)
		for _, from := range places(text) {
			refused(t, []api.Step{done}, text, from, api.ErrFull)
		}
	}
}

// I1: from is from 0 to how many bytes.
func TestNoPlace(t *testing.T) {
	for _, text := range []string{"", "a", "aab", strings.Repeat("a", api.MaxText)} {
		for _, from := range []int{math.MinInt, -64, -1, len(text) + 1, len(text) + 64, math.MaxInt} {
			refused(t, []api.Step{done}, text, from, api.ErrRange)
			refused(t, []api.Step{take("a", 0)}, text, from, api.ErrRange)
		}
		ask(t, []api.Step{done}, text, 0, []int{0})
		ask(t, []api.Step{done}, text, len(text), []int{len(text)})
	}
}

// I1: what is wrong with the program is told ahead of what is wrong with the text and the place.
func TestNoProgram(t *testing.T) {
	for _, x := range []struct {
		p    []api.Step
		want api.Errno
	}{
		{nil, api.ErrNone},
		{[]api.Step{}, api.ErrNone},
		{[]api.Step{{}}, api.ErrRange},
		{[]api.Step{{Op: 6}}, api.ErrRange},
		{[]api.Step{{Op: math.MinInt}}, api.ErrRange},
		{[]api.Step{done, take("a", 2)}, api.ErrRange}, // also where no way leads
		{[]api.Step{done, fork(0, -1)}, api.ErrRange},
		{[]api.Step{first(math.MaxInt)}, api.ErrRange},
		{[]api.Step{last(math.MinInt)}, api.ErrRange},
		{[]api.Step{{Op: api.Done, X: 1}}, api.ErrShape},
		{[]api.Step{done, {Op: api.Fork, Class: api.Class{1}}}, api.ErrShape},
		{[]api.Step{{Op: api.Done, Y: 1}, take("a", 2)}, api.ErrShape},
		{slices.Repeat([]api.Step{done}, api.MaxSteps+1), api.ErrFull},
		{make([]api.Step, 2000), api.ErrFull},
	} {
		for _, text := range []string{"", "a", strings.Repeat("a", api.MaxText+1)} {
			for _, from := range places(text) {
				refused(t, x.p, text, from, x.want)
			}
		}
	}
}

// P2, P4: what is told is the caller's, nothing is kept from call to call, and what lies behind a length is not read.
func TestFreshMemory(t *testing.T) {
	all := []api.Step{fork(1, 2), take("a", 0), done, {Op: 99}}
	before := slices.Clone(all)
	one, _ := Ends(all[:3], "aab", 0)
	clear(one[:cap(one)])
	ask(t, all[:3], "aab", 0, []int{0, 1, 2})
	if !slices.Equal(one, []int{0, 0, 0}) {
		t.Errorf("what was told became %v", one)
	}
	if !slices.Equal(all, before) {
		t.Errorf("%v became %v", before, all)
	}
	refused(t, all[:2], "aab", 0, api.ErrRange)
	refused(t, all[:0], "aab", 0, api.ErrNone)
	all[1].Class = class.Of("b")
	ask(t, all[:3], "aab", 0, []int{0})
	ask(t, all[:3], "aab", 2, []int{2, 3})
}

// I1: its ends can be left ahead of the last one.
func TestLeftEarly(t *testing.T) {
	w, _ := WaysOf([]api.Step{fork(1, 2), take("a", 0), done})
	var got []int
	for at := range w.ends("aaa", 1) {
		got = append(got, at)
		if at == 2 {
			break
		}
	}
	if !slices.Equal(got, []int{1, 2}) {
		t.Errorf("got %v", got)
	}
}

// I1: all ways at once, place by place: sets of steps that are the same are so by ==, whichever way they were come to.
func TestWays(t *testing.T) {
	p := []api.Step{fork(1, 2), take("a", 0), last(3), fork(4, 5), done, first(1)}
	w, err := WaysOf(p)
	if err != nil {
		t.Fatal(err)
	}
	p[1] = done // it is not kept
	begun, again := w.Begin(Place{First: true}), w.Begin(Place{})
	if begun != again || begun != w.Next(begun, 'a', Place{}) || !slices.Equal(slices.Collect(begun.rising), []int{0, 1, 2}) {
		t.Errorf("got %v, then %v", begun, again)
	}
	if w.IsDone(begun) || begun.IsEmpty() {
		t.Errorf("%v is at its end, or empty", begun)
	}
	ended := w.Next(begun, 'a', Place{Last: true})
	if !w.IsDone(ended) || !slices.Equal(slices.Collect(ended.rising), []int{0, 1, 2, 3, 4, 5}) {
		t.Errorf("got %v", ended)
	}
	if none := w.Next(begun, 'b', Place{Last: true}); !none.IsEmpty() || w.IsDone(none) {
		t.Errorf("got %v", none)
	}
	for text, want := range map[string][]Place{"": {{true, true}}, "ab": {{true, false}, {false, false}, {false, true}}} {
		for at, place := range want {
			if got := PlaceOf(text, at); got != place {
				t.Errorf("PlaceOf(%q, %d): got %v", text, at, got)
			}
		}
	}
	if w, err := WaysOf(nil); len(w.steps) != 0 || plain.Told(err) != api.ErrNone {
		t.Errorf("got %v %v", w, err)
	}
}

// cameTo are all steps that a program comes to behind the first place, with any bytes of its classes, where the text goes
// on; told set by set, until none is new.
func (w Ways) cameTo(bytes string) Steps {
	var found Steps
	seen := map[Steps]bool{}
	for work := []Steps{w.Begin(Place{First: true})}; len(work) > 0; work = work[1:] {
		for i := range len(bytes) {
			next := w.Next(work[0], bytes[i], Place{})
			if seen[next] {
				continue
			}
			seen[next] = true
			work = append(work, next)
			for number := range next.rising {
				found = found.with(number)
			}
		}
	}
	return found
}

// I1: the steps that a program can come to later are those of all texts that go on.
func TestLater(t *testing.T) {
	kinds := append(stepsOf(5), take("", 0), take("", 4))
	number := uint32(7)
	for range 20000 {
		var p []api.Step
		for range 5 {
			number = number*1664525 + 1013904223
			p = append(p, kinds[int(number>>8)%len(kinds)])
		}
		w, err := WaysOf(p)
		if err != nil {
			t.Fatal(err)
		}
		if got, want := w.Later(w.Begin(Place{First: true})), w.cameTo("abcd"); got != want {
			t.Fatalf("%v: got %v, want %v", p, slices.Collect(got.rising), slices.Collect(want.rising))
		}
	}
	takes := ring(func(next int) api.Step { return take("\xff", next) })
	w, _ := WaysOf(takes)
	if got := slices.Collect(w.Later(w.Begin(Place{})).rising); len(got) != api.MaxSteps {
		t.Errorf("got %v", got)
	}
}

// I1: what is known at a place where the text goes on tells what is known if it ends there.
func TestReached(t *testing.T) {
	for _, p := range programs(2) {
		w, _ := WaysOf(p)
		for _, isFirst := range []bool{false, true} {
			ended := w.Begin(Place{First: isFirst, Last: true})
			if got := w.Reached(w.Begin(Place{First: isFirst}), Place{First: isFirst, Last: true}); got != ended {
				t.Fatalf("%v: got %v, want %v", p, got, ended)
			}
		}
	}
}

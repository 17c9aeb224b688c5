package tests

import (
	"fmt"
	"math"
	"slices"
	"testing"

	"loop.example/g00219/impl"
)

func seen(f int64, pc int64, went int64, past int64) impl.Seen {
	return impl.Seen{Func: f, Pc: pc, Went: went, Past: past}
}

func profile(l ...impl.Seen) []impl.Seen {
	return l
}

func profileIs(t *testing.T, what string, got []impl.Seen, want []impl.Seen) {
	t.Helper()
	if !slices.Equal(got, want) {
		t.Errorf("%s:\n got %+v\nwant %+v", what, got, want)
	}
}

// spoil writes over all the room that a list has.
func spoil(l []impl.Seen) {
	l = l[:cap(l)]
	for at := range l {
		l[at] = seen(-7, -7, -7, -7)
	}
}

// watchIs holds Watch against what is wanted, and looks that nothing is changed, and no answer shared with another.
func watchIs(t *testing.T, what string, p impl.Program, s impl.State, want []impl.Seen) {
	t.Helper()
	state, program := told(s), copyProgram(p)
	got := impl.Watch(p, s)
	profileIs(t, "Watch of "+what, got, want)
	again := impl.Watch(p, s)
	spoil(got)
	profileIs(t, "Watch of "+what+", asked again", again, want)
	if told(s) != state || !impl.ProgramSame(p, program) {
		t.Errorf("Watch of %s changed what was handed in", what)
	}
}

func seenRightIs(t *testing.T, what string, p impl.Program, l []impl.Seen, want bool) {
	t.Helper()
	given, program := slices.Clone(l), copyProgram(p)
	if got := impl.SeenRight(p, l); got != want {
		t.Errorf("SeenRight of %s: got %v, want %v\n%+v", what, got, want, l)
	}
	if !slices.Equal(l, given) || !impl.ProgramSame(p, program) {
		t.Errorf("SeenRight of %s changed what was handed in", what)
	}
}

// addIs holds SeenAdd against what is wanted, either way round.
func addIs(t *testing.T, what string, p impl.Program, a []impl.Seen, b []impl.Seen, want []impl.Seen) {
	t.Helper()
	first, second, program := slices.Clone(a), slices.Clone(b), copyProgram(p)
	got := impl.SeenAdd(p, a, b)
	profileIs(t, "SeenAdd of "+what, got, want)
	other := impl.SeenAdd(p, b, a)
	profileIs(t, "SeenAdd, the other way round, of "+what, other, want)
	spoil(got)
	profileIs(t, "SeenAdd, the other way round, of "+what+", once the first answer is spoiled", other, want)
	if !slices.Equal(a, first) || !slices.Equal(b, second) || !impl.ProgramSame(p, program) {
		t.Errorf("SeenAdd of %s: what was handed in is changed, or shared", what)
	}
}

func guessIs(t *testing.T, what string, p impl.Program, l []impl.Seen, f int64, at int64, want int64) {
	t.Helper()
	given, program := slices.Clone(l), copyProgram(p)
	if got := impl.Guess(p, l, f, at); got != want {
		t.Errorf("Guess at %d of %d, of %s: got %d, want %d\n%+v", at, f, what, got, want, l)
	}
	if !slices.Equal(l, given) || !impl.ProgramSame(p, program) {
		t.Errorf("Guess of %s changed what was handed in", what)
	}
}

// watchSaid is Watch by the document's words, a second way; s is right.
func watchSaid(said map[int64]opSaid, p impl.Program, s impl.State) []impl.Seen {
	var took [impl.MaxFuncs][impl.MaxCode][2]int64
	for !s.Done && s.Fuel > 0 {
		f := s.Frames[len(s.Frames)-1]
		if p.Funcs[f.Func].Code[f.Pc].Op == impl.OpJz {
			took[f.Func][f.Pc][yes(popped(&f) != 0)]++
		}
		s = stepSaid(said, p, s)
	}
	var l []impl.Seen
	for f, places := range took {
		for pc, n := range places {
			if n[0]+n[1] > 0 {
				l = append(l, seen(int64(f), int64(pc), n[0], n[1]))
			}
		}
	}
	return l
}

// seenSaid asks of a profile what the document asks of it, a second way; the program is right.
func seenSaid(p impl.Program, l []impl.Seen) bool {
	var places []int64
	for _, x := range l {
		if x.Func < 0 || x.Func >= int64(len(p.Funcs)) || x.Pc < 0 || x.Pc >= int64(len(p.Funcs[x.Func].Code)) {
			return false
		}
		if p.Funcs[x.Func].Code[x.Pc].Op != impl.OpJz {
			return false
		}
		if x.Went < 0 || x.Past < 0 || x.Went > 1000000 || x.Past > 1000000 || x.Went == 0 && x.Past == 0 {
			return false
		}
		places = append(places, x.Func*100+x.Pc)
	}
	return slices.Equal(places, slices.Compact(slices.Sorted(slices.Values(places))))
}

// guessSaid is what is guessed of one Seen, by the document's words.
func guessSaid(x impl.Seen) int64 {
	switch {
	case x.Went == 0 && x.Past > 1:
		return 1
	case x.Past == 0 && x.Went > 1:
		return 2
	}
	return 0
}

// addSaid puts two right profiles together, a second way.
func addSaid(a []impl.Seen, b []impl.Seen) []impl.Seen {
	l := slices.Clone(a)
	for _, x := range b {
		at := slices.IndexFunc(l, func(y impl.Seen) bool { return y.Func == x.Func && y.Pc == x.Pc })
		if at == -1 {
			l = append(l, x)
			continue
		}
		l[at].Went = min(1000000, l[at].Went+x.Went)
		l[at].Past = min(1000000, l[at].Past+x.Past)
	}
	slices.SortFunc(l, func(x impl.Seen, y impl.Seen) int { return int(x.Func*100 + x.Pc - y.Func*100 - y.Pc) })
	return l
}

// summing has a loop that goes on as often as its argument says.
func summing(t *testing.T) impl.Program {
	t.Helper()
	return programOf(funcOf(t, 1, 2, "load 0; jz 11; load 1; load 0; add; store 1; load 0; push 1; sub; store 0; jump 0; load 1; ret"))
}

// nested has calls one in another, each function with an OpJz of its own, and one that is not reached.
func nested(t *testing.T) impl.Program {
	t.Helper()
	return programOf(
		funcOf(t, 1, 1, "load 0; jz 5; load 0; call 1; pop; push 7; ret; jz 0"),
		funcOf(t, 1, 1, "push 2; load 0; call 2; out; jz 0; load 0; call 2; ret"),
		funcOf(t, 1, 1, "load 0; push 5; less; jz 6; push 1; ret; push 0; ret"),
	)
}

func TestWatchLoop(t *testing.T) {
	p := summing(t)
	for n := range int64(12) {
		watchIs(t, fmt.Sprint("a loop that goes on ", n, " times"), p, impl.Begin(p, 0, nums(n), 200), profile(seen(0, 1, 1, n)))
	}
	watchIs(t, "a loop that never ends", p, impl.Begin(p, 0, nums(-1), impl.MaxFuel), profile(seen(0, 1, 0, 273)))
	tight := programOf(funcOf(t, 0, 0, "push 0; jz 0; push 1; ret"))
	watchIs(t, "the loop that sees most", tight, impl.Begin(tight, 0, nil, impl.MaxFuel), profile(seen(0, 1, 1500, 0)))
}

// A step is counted when it is done: the fuel that is there up to it alone does not count it.
func TestWatchFuel(t *testing.T) {
	p := summing(t)
	for fuel := range int64(48) {
		var want []impl.Seen
		steps := min(fuel, 47)
		if past, went := min(4, (steps+9)/11), yes(steps >= 46); past > 0 {
			want = profile(seen(0, 1, went, past))
		}
		watchIs(t, fmt.Sprint("a loop with fuel ", fuel), p, impl.Begin(p, 0, nums(4), fuel), want)
	}
}

func TestWatchCalls(t *testing.T) {
	p := nested(t)
	for _, c := range []struct {
		n    int64
		want []impl.Seen
	}{
		{0, profile(seen(0, 1, 1, 0))},
		{3, profile(seen(0, 1, 0, 1), seen(1, 4, 0, 1), seen(2, 3, 0, 2))},
		{4, profile(seen(0, 1, 0, 1), seen(1, 4, 0, 1), seen(2, 3, 0, 2))},
		{5, profile(seen(0, 1, 0, 1), seen(1, 4, 0, 1), seen(2, 3, 2, 0))},
		{math.MinInt64, profile(seen(0, 1, 0, 1), seen(1, 4, 0, 1), seen(2, 3, 0, 2))},
	} {
		watchIs(t, fmt.Sprint("calls one in another of ", c.n), p, impl.Begin(p, 0, nums(c.n), 100), c.want)
	}
	watchIs(t, "the function within alone", p, impl.Begin(p, 2, nums(6), 100), profile(seen(2, 3, 1, 0)))
	watchIs(t, "a function that is not the first one", p, impl.Begin(p, 1, nums(1), 100), profile(seen(1, 4, 0, 1), seen(2, 3, 0, 2)))
	itself := programOf(funcOf(t, 1, 1, "load 0; jz 7; load 0; push 1; sub; call 0; ret; push 9; ret"))
	watchIs(t, "a function that calls itself", itself, impl.Begin(itself, 0, nums(6), 100), profile(seen(0, 1, 1, 6)))
	watchIs(t, "frames that are too many", itself, impl.Begin(itself, 0, nums(20), 100), profile(seen(0, 1, 0, 10)))
}

func TestWatchEnds(t *testing.T) {
	for _, c := range []struct {
		what string
		code string
		want []impl.Seen
	}{
		{"one that ends by OpRet with no OpJz", "push 1; ret", nil},
		{"one that goes to A", "push 0; jz 4; push 3; ret; push 4; ret", profile(seen(0, 1, 1, 0))},
		{"one that goes past", "push 6; jz 4; push 3; ret; push 4; ret", profile(seen(0, 1, 0, 1))},
		{"one that is never done", "push 1; jz 4; push 1; ret; push 0; jz 4; push 2; ret", profile(seen(0, 1, 0, 1))},
		{"one that is never reached", "push 1; ret; jz 0; push 1; jz 0", nil},
		{"one ahead of a trap", "push 0; jz 2; push 1; push 0; div; jz 0; push 1; ret", profile(seen(0, 1, 1, 0))},
		{"one behind a trap", "push 1; push 0; rem; jz 4; push 1; ret", nil},
		{"two that go other ways, and a trap", "push 3; jz 5; push 0; jz 5; jump 4; push 9; len; ret", profile(seen(0, 1, 0, 1), seen(0, 3, 1, 0))},
		{"one whose A is the next place, with 0", "push 0; jz 2; push 1; ret", profile(seen(0, 1, 1, 0))},
		{"one whose A is the next place, with another number", "push 2; jz 2; push 1; ret", profile(seen(0, 1, 0, 1))},
		{"one in a loop of no end", "push 0; jz 0; push 1; ret", profile(seen(0, 1, 50, 0))},
		{"one with 0 below and another number on top", "push 0; push 5; jz 4; ret; ret", profile(seen(0, 2, 0, 1))},
		{"one with another number below and 0 on top", "push 5; push 0; jz 4; ret; ret", profile(seen(0, 2, 1, 0))},
		{"many, in the order of their places", "jump 5; push 1; jz 5; push 1; ret; push 0; jz 1; jump 7", profile(seen(0, 2, 0, 1), seen(0, 6, 1, 0))},
	} {
		p := programOf(funcOf(t, 0, 0, c.code))
		verifyIs(t, c.what, p, impl.VerifyOut{})
		s := impl.Begin(p, 0, nil, 100)
		watchIs(t, c.what, p, s, c.want)
		watchIs(t, c.what+", once it is Done", p, impl.Run(p, s), nil)
		s.Fuel = 0
		watchIs(t, c.what+", with no fuel", p, s, nil)
	}
}

// Whatever is not 0 goes past, however little of it there is.
func TestWatchNumbers(t *testing.T) {
	p := programOf(funcOf(t, 1, 1, "load 0; jz 2; push 1; ret"))
	for _, n := range append(sampleNumbers(), 0, 1, -1, 256, 1<<32, -1<<32, math.MinInt64, math.MaxInt64) {
		watchIs(t, fmt.Sprint("an OpJz of ", n), p, impl.Begin(p, 0, nums(n), 10), profile(seen(0, 1, yes(n == 0), yes(n != 0))))
	}
}

// watchedDeep is threeDeep with an OpJz that is at once the next step.
func watchedDeep(t *testing.T) (impl.Program, impl.State) {
	t.Helper()
	p, s := threeDeep(t)
	p.Funcs[2].Code[2] = ins(impl.OpJz, 3)
	return p, s
}

func TestWatchInTheMidst(t *testing.T) {
	p, s := watchedDeep(t)
	watchIs(t, "a State in the midst of a run", p, s, profile(seen(2, 2, 0, 2)))
	s.Frames[2].Stack[1] = 0
	watchIs(t, "a State in the midst of a run, with 0 on top", p, s, profile(seen(2, 2, 1, 1)))
	s.Fuel = 1
	watchIs(t, "a State with fuel for one OpJz", p, s, profile(seen(2, 2, 1, 0)))
	s.Fuel = 0
	watchIs(t, "a State with no fuel, at an OpJz", p, s, nil)
}

func TestWatchRefused(t *testing.T) {
	for _, c := range append(wrongFrames(), wrongWholes()...) {
		p, s := watchedDeep(t)
		c.do(&s)
		if impl.StateRight(p, s) {
			t.Fatalf("%s is right", c.what)
		}
		watchIs(t, c.what, p, s, nil)
	}
	p, s := watchedDeep(t)
	watchIs(t, "the zero State", p, impl.State{}, nil)
	watchIs(t, "the zero program", impl.Program{}, s, nil)
	watchIs(t, "a State that is Done", p, impl.State{Done: true, Fuel: 9, Value: 4}, nil)
	for _, c := range loneFaults(t) {
		wrong := copyProgram(p)
		wrong.Funcs = append(wrong.Funcs, c.f)
		watchIs(t, "a program with "+c.what, wrong, s, nil)
		lone := programOf(c.f)
		watchIs(t, "a function with "+c.what, lone, impl.State{Frames: []impl.Frame{{Locals: make([]int64, max(0, c.f.Locals))}}, Fuel: 9}, nil)
	}
	many := copyProgram(p)
	many.Funcs = append(many.Funcs, good(t), good(t), good(t), good(t))
	watchIs(t, "a program of seven functions", many, s, nil)
}

func TestSeenRight(t *testing.T) {
	p := nested(t)
	for _, c := range []struct {
		what string
		l    []impl.Seen
		want bool
	}{
		{"none", nil, true},
		{"an empty list", profile(), true},
		{"one", profile(seen(1, 4, 3, 4)), true},
		{"one that is not reached", profile(seen(0, 7, 3, 4)), true},
		{"all", profile(seen(0, 1, 1, 0), seen(0, 7, 0, 1), seen(1, 4, 1, 1), seen(2, 3, 9, 9)), true},
		{"a lower place of a later function", profile(seen(0, 7, 1, 0), seen(1, 4, 0, 1), seen(2, 3, 1, 1)), true},
		{"one twice", profile(seen(1, 4, 3, 4), seen(1, 4, 3, 4)), false},
		{"one twice with other counts", profile(seen(1, 4, 3, 4), seen(1, 4, 4, 3)), false},
		{"one twice, not side by side", profile(seen(0, 1, 1, 1), seen(0, 7, 1, 1), seen(0, 1, 1, 1)), false},
		{"the last one twice", profile(seen(0, 1, 1, 1), seen(2, 3, 1, 1), seen(2, 3, 1, 1)), false},
		{"falling by Pc", profile(seen(0, 7, 1, 1), seen(0, 1, 1, 1)), false},
		{"falling by Func", profile(seen(1, 4, 1, 1), seen(0, 7, 1, 1)), false},
		{"falling by Func, rising by Pc", profile(seen(2, 3, 1, 1), seen(1, 4, 1, 1)), false},
		{"falling at the end", profile(seen(0, 1, 1, 1), seen(2, 3, 1, 1), seen(1, 4, 1, 1)), false},
		{"a wrong count at the end", profile(seen(0, 1, 1, 1), seen(1, 4, 1, 1), seen(2, 3, 0, 0)), false},
		{"a wrong count at the beginning", profile(seen(0, 1, -1, 1), seen(1, 4, 1, 1)), false},
		{"a wrong place at the end", profile(seen(0, 1, 1, 1), seen(1, 4, 1, 1), seen(2, 4, 1, 1)), false},
		{"a wrong place at the beginning", profile(seen(0, 0, 1, 1), seen(1, 4, 1, 1)), false},
		{"the zero Seen", profile(impl.Seen{}), false},
	} {
		if got := seenSaid(p, c.l); got != c.want {
			t.Fatalf("the test's own second way says %v of %s", got, c.what)
		}
		seenRightIs(t, c.what, p, c.l, c.want)
	}
}

// countEdges are counts at the bounds, and about them.
func countEdges() []int64 {
	return nums(math.MinInt64, -1<<32, -1000000, -2, -1, 0, 1, 2, 3, 999999, 1000000, 1000001, 1<<32, 1<<32+1, math.MaxInt64)
}

func TestSeenRightCounts(t *testing.T) {
	p := summing(t)
	rights := 0
	for _, went := range countEdges() {
		for _, past := range countEdges() {
			l := profile(seen(0, 1, went, past))
			want := seenSaid(p, l)
			rights += int(yes(want))
			seenRightIs(t, fmt.Sprint("counts ", went, " and ", past), p, l, want)
		}
	}
	if rights != 35 {
		t.Errorf("%d pairs of counts are right, want all of six by six but both 0", rights)
	}
}

func TestSeenRightPlaces(t *testing.T) {
	p := nested(t)
	rights := 0
	for _, f := range nums(math.MinInt64, -1<<32, -2, -1, 0, 1, 2, 3, 4, 6, 1<<32, 1<<32+1, math.MaxInt64) {
		for _, pc := range nums(math.MinInt64, -1<<32, -2, -1, 0, 1, 2, 3, 4, 5, 6, 7, 8, 9, 60, 1<<32+1, 1<<32+4, math.MaxInt64) {
			l := profile(seen(f, pc, 2, 0))
			want := seenSaid(p, l)
			rights += int(yes(want))
			seenRightIs(t, fmt.Sprint("place ", pc, " of ", f), p, l, want)
			if !want {
				guessIs(t, "a profile of no OpJz", p, l, f, pc, 0)
				addIs(t, "a profile of no OpJz and one that is right", p, l, profile(seen(1, 4, 1, 1)), nil)
			}
		}
	}
	if rights != 4 {
		t.Errorf("%d places are right, want 4", rights)
	}
}

// Of each op but OpJz there is no Seen.
func TestSeenRightOfOtherOps(t *testing.T) {
	p := allOps(t)
	jumps := 0
	for f, function := range p.Funcs {
		for pc, i := range function.Code {
			want := i.Op == impl.OpJz
			jumps += int(yes(want))
			l := profile(seen(int64(f), int64(pc), 2, 0))
			seenRightIs(t, "an instruction of "+impl.OpName(i.Op), p, l, want)
			guessIs(t, "an instruction of "+impl.OpName(i.Op), p, l, int64(f), int64(pc), 2*yes(want))
		}
	}
	if jumps == 0 {
		t.Error("there is no OpJz")
	}
}

// Every list of up to three of six places.
func TestSeenRightOrder(t *testing.T) {
	p := nested(t)
	places := profile(seen(0, 1, 1, 0), seen(0, 7, 0, 1), seen(1, 4, 1, 1), seen(2, 3, 2, 0), seen(0, 1, 0, 0), seen(1, 1, 1, 1))
	rights := 0
	look := func(l ...impl.Seen) {
		want := seenSaid(p, l)
		rights += int(yes(want))
		seenRightIs(t, "a list", p, l, want)
	}
	for _, a := range places {
		for _, b := range places {
			look(a, b)
			for _, c := range places {
				look(a, b, c)
			}
		}
	}
	if rights != 6+4 {
		t.Errorf("%d lists are right, want 10: two or three of four that rise", rights)
	}
}

// jumpy has as many OpJz as there may be, and the profile that has them all.
func jumpy(t *testing.T) (impl.Program, []impl.Seen) {
	t.Helper()
	var p impl.Program
	var l []impl.Seen
	for f := range int64(impl.MaxFuncs) {
		p.Funcs = append(p.Funcs, funcOf(t, 0, 0, "jump 0; "+times(impl.MaxCode-2, "jz 0")+"jz 59"))
		for pc := int64(1); pc < impl.MaxCode; pc++ {
			l = append(l, seen(f, pc, f+pc, 500001*(pc%2)))
		}
	}
	return p, l
}

func TestLongestProfiles(t *testing.T) {
	p, l := jumpy(t)
	seenRightIs(t, "every OpJz", p, l, true)
	addIs(t, "every OpJz, and none", p, l, nil, l)
	addIs(t, "every OpJz twice", p, l, l, addSaid(l, l))
	half := l[100:200]
	addIs(t, "every OpJz, and some", p, l, half, addSaid(l, half))
	for _, x := range l {
		guessIs(t, "every OpJz", p, l, x.Func, x.Pc, guessSaid(x))
	}
	for _, n := range []int{355, impl.MaxList - 1, impl.MaxList, impl.MaxList + 1, 10 * impl.MaxList} {
		what := fmt.Sprint("a list of ", n)
		long := slices.Repeat(l, n/len(l)+1)[:n]
		tooMany := slices.Clone(l)
		for k := len(l); k < n; k++ {
			tooMany = append(tooMany, seen(5, 60+int64(k), 1, 1))
		}
		for _, wrong := range [][]impl.Seen{long, tooMany, make([]impl.Seen, n)} {
			seenRightIs(t, what, p, wrong, false)
			addIs(t, what, p, wrong, l, nil)
			addIs(t, what+", twice", p, wrong, wrong, nil)
			addIs(t, what+", and none", p, wrong, nil, nil)
			guessIs(t, what, p, wrong, 0, 2, 0)
		}
	}
}

func TestSeenAdd(t *testing.T) {
	p := nested(t)
	for _, c := range []struct {
		what string
		a    []impl.Seen
		b    []impl.Seen
		want []impl.Seen
	}{
		{"none and none", nil, nil, nil},
		{"none and an empty list", nil, profile(), nil},
		{"one and none", profile(seen(0, 1, 1, 0)), nil, profile(seen(0, 1, 1, 0))},
		{"one and the same", profile(seen(0, 1, 3, 4)), profile(seen(0, 1, 3, 4)), profile(seen(0, 1, 6, 8))},
		{"one way and the other way", profile(seen(0, 1, 3, 0)), profile(seen(0, 1, 0, 4)), profile(seen(0, 1, 3, 4))},
		{"two of one function", profile(seen(0, 1, 1, 2)), profile(seen(0, 7, 3, 4)), profile(seen(0, 1, 1, 2), seen(0, 7, 3, 4))},
		{"two of two functions", profile(seen(1, 4, 1, 2)), profile(seen(0, 7, 3, 4)), profile(seen(0, 7, 3, 4), seen(1, 4, 1, 2))},
		{"a lower place of a later function", profile(seen(2, 3, 1, 2)), profile(seen(1, 4, 3, 4)), profile(seen(1, 4, 3, 4), seen(2, 3, 1, 2))},
		{"some between others", profile(seen(0, 1, 1, 2), seen(1, 4, 3, 4)), profile(seen(0, 7, 5, 6), seen(1, 4, 7, 8), seen(2, 3, 9, 10)),
			profile(seen(0, 1, 1, 2), seen(0, 7, 5, 6), seen(1, 4, 10, 12), seen(2, 3, 9, 10))},
	} {
		addIs(t, c.what, p, c.a, c.b, c.want)
	}
}

func TestSeenAddSums(t *testing.T) {
	p := summing(t)
	tops := 0
	counts := nums(0, 1, 2, 499999, 500000, 500001, 999998, 999999, 1000000)
	for _, a := range counts {
		for _, b := range counts {
			sum := min(a+b, 1000000)
			tops += int(yes(a+b > 1000000))
			went := [2][]impl.Seen{profile(seen(0, 1, a, 1)), profile(seen(0, 1, b, 2))}
			past := [2][]impl.Seen{profile(seen(0, 1, 1, a)), profile(seen(0, 1, 3, b))}
			addIs(t, fmt.Sprint("Went ", a, " and ", b), p, went[0], went[1], profile(seen(0, 1, sum, 3)))
			addIs(t, fmt.Sprint("Past ", a, " and ", b), p, past[0], past[1], profile(seen(0, 1, 4, sum)))
			if a > 0 && b > 0 {
				addIs(t, fmt.Sprint("both ", a, " and ", b), p, profile(seen(0, 1, a, a)), profile(seen(0, 1, b, b)), profile(seen(0, 1, sum, sum)))
			}
		}
	}
	if tops < 10 {
		t.Errorf("only %d sums lie above the bound", tops)
	}
	full := profile(seen(0, 1, 1000000, 1000000))
	addIs(t, "twice as much as there may be", p, full, full, full)
}

// wrongProfiles are wrong for nested, each in one way.
func wrongProfiles() [][]impl.Seen {
	return [][]impl.Seen{
		profile(seen(0, 1, 0, 0)),
		profile(seen(0, 1, -1, 1)),
		profile(seen(0, 1, 1, -1)),
		profile(seen(0, 1, 1000001, 0)),
		profile(seen(0, 1, 0, 1000001)),
		profile(seen(0, 1, 2, 0), seen(1, 4, 0, 0)),
		profile(seen(0, 1, 2, 0), seen(0, 1, 2, 0)),
		profile(seen(0, 7, 2, 0), seen(0, 1, 2, 0)),
		profile(seen(1, 4, 2, 0), seen(0, 1, 2, 0)),
		profile(seen(0, 1, 2, 0), seen(0, 2, 2, 0)),
		profile(seen(0, 1, 2, 0), seen(0, 8, 2, 0)),
		profile(seen(0, 1, 2, 0), seen(3, 0, 2, 0)),
		profile(seen(-1, 1, 2, 0), seen(0, 1, 2, 0)),
		profile(seen(0, -1, 2, 0), seen(0, 1, 2, 0)),
		profile(impl.Seen{}),
	}
}

func TestWrongProfiles(t *testing.T) {
	p := nested(t)
	rights := [][]impl.Seen{nil, profile(seen(0, 1, 2, 0)), profile(seen(0, 1, 2, 0), seen(1, 4, 0, 2), seen(2, 3, 3, 3))}
	for _, wrong := range wrongProfiles() {
		what := fmt.Sprint(wrong)
		seenRightIs(t, what, p, wrong, false)
		for _, right := range append(rights, wrong) {
			addIs(t, what+" and another one", p, wrong, right, nil)
		}
		for f := range int64(3) {
			for at := range int64(9) {
				guessIs(t, what, p, wrong, f, at, 0)
			}
		}
	}
	for _, right := range rights {
		seenRightIs(t, "a right one beside the wrong ones", p, right, true)
	}
}

// What is right for a program is not for one that is not right itself, not even a list of none.
func TestProfilesOfWrongPrograms(t *testing.T) {
	l := profile(seen(0, 1, 2, 0))
	refused := func(what string, p impl.Program) {
		seenRightIs(t, what, p, l, false)
		seenRightIs(t, "none, of "+what, p, nil, false)
		addIs(t, what, p, l, l, nil)
		addIs(t, "none, of "+what, p, nil, nil, nil)
		guessIs(t, what, p, l, 0, 1, 0)
	}
	for _, c := range loneFaults(t) {
		refused("a program with "+c.what, programOf(summing(t).Funcs[0], c.f))
	}
	refused("a program that takes too much", programOf(funcOf(t, 0, 0, "push 1; jz 0; ret")))
	refused("a program that goes out", programOf(funcOf(t, 0, 0, "push 1; jz 0")))
	refused("the zero program", impl.Program{})
	refused("seven functions", programOf(slices.Repeat(summing(t).Funcs, 7)...))
	six := programOf(slices.Repeat(summing(t).Funcs, 6)...)
	seenRightIs(t, "six functions", six, profile(seen(0, 1, 2, 0), seen(5, 1, 0, 2)), true)
}

func TestGuess(t *testing.T) {
	p := nested(t)
	for _, went := range nums(0, 1, 2, 3, 999999, 1000000) {
		for _, past := range nums(0, 1, 2, 3, 999999, 1000000) {
			x := seen(1, 4, went, past)
			if x == seen(1, 4, 0, 0) {
				continue
			}
			for _, l := range [][]impl.Seen{
				profile(x),
				profile(seen(0, 1, 2, 0), x, seen(2, 3, 2, 0)),
				profile(seen(0, 1, 0, 2), seen(0, 7, 0, 2), x, seen(2, 3, 0, 2)),
				profile(seen(0, 1, 5, 5), x),
			} {
				guessIs(t, fmt.Sprint("counts ", went, " and ", past), p, l, 1, 4, guessSaid(x))
			}
		}
	}
	for _, c := range []struct{ went, past, want int64 }{
		{0, 1, 0}, {0, 2, 1}, {0, 1000000, 1}, {1, 0, 0}, {2, 0, 2}, {1000000, 0, 2}, {1, 1, 0}, {1, 2, 0}, {2, 1, 0}, {2, 2, 0}, {1, 1000000, 0}, {1000000, 1, 0},
	} {
		guessIs(t, "counts by hand", p, profile(seen(1, 4, c.went, c.past)), 1, 4, c.want)
	}
}

func TestGuessElsewhere(t *testing.T) {
	p := nested(t)
	l := profile(seen(0, 1, 0, 2), seen(1, 4, 2, 0))
	for _, f := range nums(math.MinInt64, -1<<32, -1, 0, 1, 2, 3, 4, 1<<32, 1<<32+1, math.MaxInt64) {
		for _, at := range nums(math.MinInt64, -1<<32, -1, 0, 1, 2, 3, 4, 5, 6, 7, 8, 100, 101, 1<<32+1, 1<<32+4, math.MaxInt64) {
			want := int64(0)
			switch {
			case f == 0 && at == 1:
				want = 1
			case f == 1 && at == 4:
				want = 2
			}
			guessIs(t, "two", p, l, f, at, want)
			guessIs(t, "none", p, nil, f, at, 0)
		}
	}
}

// seenWays counts what thrown programs were seen to do, so that none of it goes unlooked at.
type seenWays struct {
	went, past, both, several, capped int
	guesses                           [3]int
}

func (ways *seenWays) count(l []impl.Seen) {
	funcs := map[int64]int{}
	for _, x := range l {
		funcs[x.Func]++
		ways.guesses[guessSaid(x)]++
		ways.went += int(yes(x.Past == 0))
		ways.past += int(yes(x.Went == 0))
		ways.both += int(yes(x.Went > 0 && x.Past > 0))
		ways.capped += int(yes(x.Went == 1000000 || x.Past == 1000000))
	}
	ways.several += int(yes(len(funcs) > 1))
}

// guessed holds the guess at each OpJz, and behind it, against the profile.
func guessed(t *testing.T, p impl.Program, l []impl.Seen) {
	t.Helper()
	want := map[[2]int64]int64{}
	for _, x := range l {
		want[[2]int64{x.Func, x.Pc}] = guessSaid(x)
	}
	for f, function := range p.Funcs {
		for at, i := range function.Code {
			if i.Op != impl.OpJz {
				continue
			}
			for _, pc := range []int{at, at + 1} {
				guessIs(t, "a thrown program", p, l, int64(f), int64(pc), want[[2]int64{int64(f), int64(pc)}])
			}
		}
	}
}

// jumpyOps has OpJz so often that a thrown program goes many ways, and few of those ops that end a run by a trap.
func jumpyOps(t *testing.T) []opSaid {
	t.Helper()
	all := saidOf(t)
	var l []opSaid
	for _, op := range nums(impl.OpPush, impl.OpLoad, impl.OpStore, impl.OpStore, impl.OpDup, impl.OpAdd, impl.OpSub, impl.OpLess, impl.OpNot,
		impl.OpJz, impl.OpJz, impl.OpJz, impl.OpJz, impl.OpJump, impl.OpCall, impl.OpRet, impl.OpDiv) {
		l = append(l, all[op])
	}
	return l
}

// Promise 9, of one State: what is seen of it is right, also part by part, and the parts go together either way.
func promiseNine(t *testing.T, said map[int64]opSaid, p impl.Program, s impl.State, ways *seenWays) []impl.Seen {
	t.Helper()
	l := watchSaid(said, p, s)
	watchIs(t, "a thrown State", p, s, l)
	seenRightIs(t, "what was seen of a thrown State", p, l, true)
	ways.count(l)
	guessed(t, p, l)
	fuel := s.Fuel
	for first := int64(0); first <= fuel; first += 1 + fuel/4 {
		s.Fuel = first
		ahead, half := impl.Watch(p, s), impl.Run(p, s)
		half.Fuel += fuel - first
		addIs(t, "a run in two parts", p, ahead, impl.Watch(p, half), l)
	}
	return l
}

// grown has the same places with other counts, so that they are great, too.
func grown(d *dice, l []impl.Seen) []impl.Seen {
	l = slices.Clone(l)
	for k := range l {
		by := nums(0, 1, 300, 250000, 400000)[d.below(5)]
		l[k].Went = min(1000000, l[k].Went*(1+by))
		l[k].Past = min(1000000, l[k].Past*(1+by))
	}
	return l
}

// thrownLoop calls a function again and again, each time with one less; there each OpJz asks something else of it.
func thrownLoop(t *testing.T, d *dice) impl.Program {
	t.Helper()
	text := ""
	for at := 0; at < 3+d.below(45); at += 6 {
		ask := []string{"and", "rem", "less", "atmost", "same", "xor"}[d.below(6)]
		text += fmt.Sprintf("load 0; push %d; %s; jz %d; load 0; out; ", 1+d.below(9), ask, at+6)
	}
	return programOf(
		funcOf(t, 1, 1, "load 0; jz 10; load 0; call 1; pop; load 0; push 1; sub; store 0; jump 0; push 0; ret"),
		funcOf(t, 1, 1, text+"load 0; ret"),
	)
}

// Promise 9, of runs that go both ways.
func TestLoopProfiles(t *testing.T) {
	said := saidOf(t)
	d := &dice{u: 10}
	ways := &seenWays{}
	for range 60 {
		p := thrownLoop(t, d)
		promiseNine(t, said, p, impl.Begin(p, 0, nums(int64(d.below(20))), int64(d.below(900))), ways)
	}
	if ways.both < 100 || ways.several < 40 || ways.guesses[1] < 10 || ways.guesses[2] < 10 {
		t.Errorf("too little was seen: %+v", ways)
	}
}

// Promise 9.
func TestThrownProfiles(t *testing.T) {
	said := saidOf(t)
	d := &dice{u: 8}
	ways, sums := &seenWays{}, &seenWays{}
	for range 400 {
		p, s := thrownState(t, d, jumpyOps(t))
		l := promiseNine(t, said, p, s, ways)
		s = impl.Begin(p, 0, make([]int64, p.Funcs[0].Args), 300)
		other := promiseNine(t, said, p, s, ways)
		for _, b := range [][]impl.Seen{nil, other, grown(d, other), l} {
			a := grown(d, l)
			both := addSaid(a, b)
			addIs(t, "two thrown profiles", p, a, b, both)
			seenRightIs(t, "two thrown profiles together", p, both, true)
			guessed(t, p, both)
			sums.count(both)
		}
	}
	for what, n := range map[string]int{
		"went to A alone": ways.went, "went past alone": ways.past, "went both ways, together": sums.both, "profiles of several functions": sums.several,
		"guesses of 1": ways.guesses[1], "guesses of 2": ways.guesses[2], "guesses of nothing": ways.guesses[0], "sums at the bound": sums.capped,
	} {
		if n < 50 {
			t.Errorf("%s: only %d", what, n)
		}
	}
}

// thrownProfile is a list that is right, or nearly so.
func thrownProfile(d *dice, p impl.Program) []impl.Seen {
	var l []impl.Seen
	for f, function := range p.Funcs {
		for pc, i := range function.Code {
			if i.Op == impl.OpJz && d.below(2) == 0 {
				l = append(l, seen(int64(f), int64(pc), int64(d.below(3)), int64(1+d.below(3))))
			}
		}
	}
	if len(l) == 0 || d.below(2) == 0 {
		return l
	}
	at := d.below(len(l))
	switch d.below(5) {
	case 0:
		l[at].Pc += int64(d.below(5)) - 2
	case 1:
		l[at].Func += int64(d.below(3)) - 1
	case 2:
		l[at].Went, l[at].Past = int64(d.below(3))-1, int64(d.below(3))-1
	case 3:
		l[at], l[len(l)-1] = l[len(l)-1], l[at]
	case 4:
		l = slices.Insert(l, at, l[at])
	}
	return l
}

// Lists that are right or nearly so are taken just where the second way says so.
func TestThrownLists(t *testing.T) {
	d := &dice{u: 9}
	rights, wrongs := 0, 0
	for range 3000 {
		p := thrownRight(t, d, jumpyOps(t))
		l, other := thrownProfile(d, p), thrownProfile(d, p)
		want := seenSaid(p, l)
		seenRightIs(t, "a thrown list", p, l, want)
		if want && len(l) > 0 {
			rights++
		}
		if !want {
			wrongs++
			guessIs(t, "a thrown list that is not right", p, l, l[0].Func, l[0].Pc, 0)
		}
		var both []impl.Seen
		if want && seenSaid(p, other) {
			both = addSaid(l, other)
		}
		addIs(t, "two thrown lists", p, l, other, both)
	}
	if rights < 500 || wrongs < 500 {
		t.Errorf("only %d right lists and %d others were thrown", rights, wrongs)
	}
}

// The same is answered again, whatever was asked in between.
func TestProfilesKeepNothing(t *testing.T) {
	p, s := watchedDeep(t)
	first := impl.Watch(p, s)
	loop := summing(t)
	for range 3 {
		impl.Watch(loop, impl.Begin(loop, 0, nums(9), 200))
		impl.SeenAdd(p, first, first)
		watchIs(t, "a State that was asked for ahead", p, s, first)
	}
}

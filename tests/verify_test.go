package tests

import (
	"math"
	"slices"
	"strconv"
	"strings"
	"testing"

	"loop.example/g00219/impl"
)

// codeOf reads instructions, each an op's name and its A (0, if it is left out), with "; " between each two.
func codeOf(t *testing.T, text string) []impl.Ins {
	t.Helper()
	var l []impl.Ins
	for _, part := range strings.Split(text, "; ") {
		words := strings.Split(part, " ")
		at := slices.IndexFunc(opsSaid(t), func(o opSaid) bool { return o.name == words[0] })
		if at < 0 {
			t.Fatalf("%q is no op", words[0])
		}
		i := ins(opsSaid(t)[at].op, 0)
		if len(words) > 1 {
			a, err := strconv.ParseInt(words[1], 10, 64)
			if err != nil {
				t.Fatal(err)
			}
			i.A = a
		}
		l = append(l, i)
	}
	return l
}

func funcOf(t *testing.T, args int64, locals int64, text string) impl.Func {
	t.Helper()
	return impl.Func{Args: args, Locals: locals, Code: codeOf(t, text)}
}

func programOf(l ...impl.Func) impl.Program {
	return impl.Program{Funcs: l}
}

// times is an instruction so often, with "; " behind each.
func times(n int, text string) string {
	return strings.Repeat(text+"; ", n)
}

func good(t *testing.T) impl.Func {
	t.Helper()
	return funcOf(t, 0, 0, "push 1; ret")
}

func copyProgram(p impl.Program) impl.Program {
	c := impl.Program{Funcs: slices.Clone(p.Funcs)}
	for f := range c.Funcs {
		c.Funcs[f].Code = slices.Clone(c.Funcs[f].Code)
	}
	return c
}

func fault(f int64, at int64, code int64) impl.VerifyOut {
	return impl.VerifyOut{Func: f, At: at, Code: code}
}

// verifyIs holds Verify against what is wanted, and asks for no lists at all of a program that is not right.
func verifyIs(t *testing.T, what string, p impl.Program, want impl.VerifyOut) {
	t.Helper()
	if got := impl.Verify(p); got != want {
		t.Errorf("Verify of %s: got %+v, want %+v", what, got, want)
	}
	if want.Code == impl.OK {
		return
	}
	for f := int64(-1); f <= int64(len(p.Funcs)); f++ {
		noLists(t, what, p, f)
	}
}

func noLists(t *testing.T, what string, p impl.Program, f int64) {
	t.Helper()
	if got := impl.Heights(p, f); len(got) != 0 {
		t.Errorf("Heights of function %d of %s: got %v, want none", f, what, got)
	}
	if got := impl.Headers(p, f); len(got) != 0 {
		t.Errorf("Headers of function %d of %s: got %v, want none", f, what, got)
	}
}

func rightIs(t *testing.T, what string, p impl.Program, f int64, heights []int64, headers []int64) {
	t.Helper()
	verifyIs(t, what, p, impl.VerifyOut{})
	if got := impl.Heights(p, f); !slices.Equal(got, heights) {
		t.Errorf("Heights of function %d of %s: got %v, want %v", f, what, got, heights)
	}
	if got := impl.Headers(p, f); !slices.Equal(got, headers) {
		t.Errorf("Headers of function %d of %s: got %v, want %v", f, what, got, headers)
	}
}

func TestRightPrograms(t *testing.T) {
	for _, c := range []struct {
		what    string
		args    int64
		locals  int64
		code    string
		heights []int64
		headers []int64
	}{
		{"straight code", 2, 3, "load 0; load 1; mul; dup; store 2; neg; ret", []int64{0, 1, 2, 1, 2, 1, 1}, nil},
		{"each op of the heap", 0, 1, "push 3; new; dup; push 0; push 7; set; push 1; len; out; push 1; push 0; get; ret",
			[]int64{0, 1, 1, 2, 3, 4, 1, 2, 2, 1, 2, 3, 2}, nil},
		{"a loop", 1, 1, "load 0; jz 7; load 0; push 1; sub; store 0; jump 0; push 5; ret", []int64{0, 1, 0, 1, 2, 1, 0, 0, 1}, []int64{0}},
		{"a loop by jz", 1, 1, "push 1; pop; load 0; jz 2; push 0; ret", []int64{0, 1, 0, 1, 0, 1}, []int64{2}},
		{"a loop that keeps something", 1, 1, "push 9; load 0; jz 1; ret", []int64{0, 1, 2, 1}, []int64{1}},
		{"two loops, one in the other", 1, 1, "push 1; jz 2; load 0; jz 2; load 0; jz 0; push 0; ret", []int64{0, 1, 0, 1, 0, 1, 0, 1}, []int64{0, 2}},
		{"two ways back to one place", 1, 1, "push 1; pop; load 0; jz 2; load 0; jz 2; push 0; ret", []int64{0, 1, 0, 1, 0, 1, 0, 1}, []int64{2}},
		{"headers that are found the greater one first", 0, 0, "jump 5; push 0; jz 1; push 0; ret; push 0; jz 5; jump 1", []int64{0, 0, 1, 0, 1, 0, 1, 0}, []int64{1, 5}},
		{"a branch that joins again", 1, 1, "load 0; jz 4; push 1; jump 5; push 2; ret", []int64{0, 1, 0, 1, 0, 1}, nil},
		{"a branch to the next place", 1, 1, "load 0; jz 2; push 2; ret", []int64{0, 1, 0, 1}, nil},
		{"a place that is never reached", 0, 0, "jump 3; pop; jump 1; push 1; ret", []int64{0, -1, -1, 0, 1}, nil},
		{"places behind the end", 0, 0, "push 1; ret; set; add", []int64{0, 1, -1, -1}, nil},
		{"a loop that is never reached", 0, 0, "push 1; ret; jump 2; push 1; jz 0", []int64{0, 1, -1, -1, -1}, nil},
		{"a reached loop beside one that is not", 0, 0, "push 1; jz 0; push 1; ret; jump 2; jump 4", []int64{0, 1, 0, 1, -1, -1}, []int64{0}},
		{"a call of itself", 2, 2, "load 0; load 1; call 0; ret", []int64{0, 1, 2, 1}, nil},
		{"a call that is given no more than it takes", 4, 4, times(4, "push 1") + "call 0; ret", []int64{0, 1, 2, 3, 4, 1}, nil},
		{"a jump to itself alone", 0, 0, "jump 0", []int64{0}, []int64{0}},
		{"a jump to itself at the last place", 0, 0, "push 1; pop; jump 2", []int64{0, 1, 0}, []int64{2}},
		{"a jump to itself of some height", 0, 0, "push 1; push 1; jump 2; ret", []int64{0, 1, 2, -1}, []int64{2}},
		{"a jump to the last place", 0, 0, "push 1; jump 3; pop; ret", []int64{0, 1, -1, 1}, nil},
		{"a jz to the last place", 0, 0, "push 1; push 1; jz 3; ret", []int64{0, 1, 2, 1}, nil},
		{"a jump back to place 0 from the last one", 0, 0, "push 1; pop; jump 0", []int64{0, 1, 0}, []int64{0}},
		{"a full stack", 0, 1, times(8, "push 1") + "out; load 0; store 0; push 2; ret", []int64{0, 1, 2, 3, 4, 5, 6, 7, 8, 7, 8, 7, 8}, nil},
		{"a full stack that is left as high", 0, 0, times(8, "push 1") + "neg; jump 8", []int64{0, 1, 2, 3, 4, 5, 6, 7, 8, 8}, []int64{8}},
	} {
		rightIs(t, c.what, programOf(funcOf(t, c.args, c.locals, c.code)), 0, c.heights, c.headers)
	}
}

func TestCallsBetweenFunctions(t *testing.T) {
	p := programOf(
		funcOf(t, 0, 0, "push 1; push 2; push 3; call 2; out; call 1; ret"),
		funcOf(t, 0, 0, "call 1; jz 0; jump 2"),
		funcOf(t, 3, 4, "load 0; jz 0; load 3; ret"),
	)
	rightIs(t, "calls", p, 0, []int64{0, 1, 2, 3, 1, 0, 1}, nil)
	rightIs(t, "calls", p, 1, []int64{0, 1, 0}, []int64{0, 2})
	rightIs(t, "calls", p, 2, []int64{0, 1, 0, 1}, []int64{0})
}

func TestNoSuchFunction(t *testing.T) {
	p := programOf(good(t), good(t))
	for _, f := range []int64{-1, -2, 2, 3, 6, 1 << 32, -1 << 32, math.MaxInt64, math.MinInt64} {
		noLists(t, "a right program of two", p, f)
	}
}

func TestHowManyFunctions(t *testing.T) {
	verifyIs(t, "the zero program", impl.Program{}, fault(0, 0, impl.ErrForm))
	verifyIs(t, "no function", programOf([]impl.Func{}...), fault(0, 0, impl.ErrForm))
	for _, n := range []int{1, 2, impl.MaxFuncs, impl.MaxFuncs + 1, impl.MaxList, impl.MaxList + 1} {
		var p impl.Program
		for range n {
			p.Funcs = append(p.Funcs, good(t))
		}
		want := impl.VerifyOut{}
		if n > impl.MaxFuncs {
			want = fault(0, 0, impl.ErrForm)
		}
		verifyIs(t, strconv.Itoa(n)+" functions", p, want)
	}
	var p impl.Program
	for range impl.MaxFuncs + 1 {
		p.Funcs = append(p.Funcs, funcOf(t, 5, 0, "push 1; pop"))
	}
	verifyIs(t, "too many functions, none of them right", p, fault(0, 0, impl.ErrForm))
}

// Each size stands in the second function, so that Func is seen, too.
func TestArgsAndLocals(t *testing.T) {
	numbers := []int64{math.MinInt64, -1 << 32, -2, -1, 0, 1, 2, 3, 4, 5, 6, 7, 8, 9, 10, 256, 1 << 32, math.MaxInt64}
	for _, args := range numbers {
		for _, locals := range numbers {
			want := fault(1, 0, impl.ErrForm)
			if 0 <= args && args <= 4 && args <= locals && locals <= 8 {
				want = impl.VerifyOut{}
			}
			p := programOf(good(t), funcOf(t, args, locals, "push 1; ret"))
			verifyIs(t, "Args "+strconv.FormatInt(args, 10)+" and Locals "+strconv.FormatInt(locals, 10), p, want)
		}
	}
}

func TestHowManyInstructions(t *testing.T) {
	verifyIs(t, "no instruction", programOf(impl.Func{}), fault(0, 0, impl.ErrForm))
	verifyIs(t, "no instruction in the last one", programOf(good(t), good(t), impl.Func{Code: []impl.Ins{}}), fault(2, 0, impl.ErrForm))
	for _, n := range []int{2, 3, impl.MaxCode - 1, impl.MaxCode, impl.MaxCode + 1, impl.MaxCode + 2, impl.MaxList + 1} {
		p := programOf(good(t), funcOf(t, 1, 1, "load 0; "+times(n-2, "neg")+"ret"))
		want := impl.VerifyOut{}
		if n > impl.MaxCode {
			want = fault(1, 0, impl.ErrForm)
		}
		verifyIs(t, strconv.Itoa(n)+" instructions", p, want)
	}
	verifyIs(t, "one instruction", programOf(funcOf(t, 0, 0, "jump 0")), impl.VerifyOut{})
	long := programOf(impl.Func{Code: make([]impl.Ins, impl.MaxCode+1)})
	verifyIs(t, "too many instructions, none of them right", long, fault(0, 0, impl.ErrForm))
}

// A jump may go to the last of MaxCode places.
func TestLastPlaceOfMaxCode(t *testing.T) {
	p := programOf(funcOf(t, 0, 0, "push 1; jump 59; "+times(57, "pop")+"ret"))
	heights := slices.Repeat([]int64{-1}, 60)
	heights[0], heights[1], heights[59] = 0, 1, 1
	rightIs(t, "a jump to the last of all places", p, 0, heights, nil)
	p.Funcs[0].Code[1].A = 60
	verifyIs(t, "a jump behind the last of all places", p, fault(0, 1, impl.ErrForm))
}

func TestInstructionsThatStandWrong(t *testing.T) {
	for _, text := range []string{"load 2", "load -1", "store 2", "store -1", "jump -1", "jump 5", "jz -1", "jz 5", "call -1", "call 2", "dup 1", "pop -1",
		"add 1", "word 1", "ret 1", "new 1", "get 1", "set -1", "len 1", "out 1", "call 9223372036854775807", "jump -9223372036854775808"} {
		wrong := codeOf(t, text)[0]
		for at := range int64(5) {
			p := programOf(good(t), funcOf(t, 1, 2, "push 1; ret; push 1; push 1; ret"))
			p.Funcs[1].Code[at] = wrong
			verifyIs(t, text+" at "+strconv.FormatInt(at, 10), p, fault(1, at, impl.ErrForm))
		}
	}
	for _, op := range noOps() {
		p := programOf(funcOf(t, 0, 0, "push 1; ret"))
		p.Funcs[0].Code = append(p.Funcs[0].Code, ins(op, 0))
		verifyIs(t, "op "+strconv.FormatInt(op, 10), p, fault(0, 2, impl.ErrForm))
	}
	p := programOf(funcOf(t, 0, 0, "load 0; ret"), good(t))
	verifyIs(t, "a local of none", p, fault(0, 0, impl.ErrForm))
}

// Each op that takes something, at each height that is too low, and at the one that is just high enough.
func TestTakesMoreThanIsThere(t *testing.T) {
	for _, o := range opsSaid(t) {
		takes, a := o.takes, int64(0)
		if o.arg == "func" {
			takes, a = 4, 1
		}
		for height := range takes + 1 {
			f := funcOf(t, 0, 1, times(int(height), "push 0")+"push 0; pop; "+"jump 0")
			at := height + 2
			f.Code[at] = ins(o.op, a)
			if o.arg == "place" {
				f.Code[at].A = at + 1
			}
			f.Code = append(f.Code, ins(impl.OpPush, 1), ins(impl.OpRet, 0))
			p := programOf(f, funcOf(t, 4, 4, "push 1; ret"))
			want := impl.VerifyOut{}
			if height < takes {
				want = fault(0, at, impl.ErrStack)
			}
			verifyIs(t, o.name+" at height "+strconv.FormatInt(height, 10), p, want)
		}
	}
}

func TestLeavesTooMuch(t *testing.T) {
	full := times(impl.MaxStack, "push 1")
	for _, text := range []string{"push 0", "load 0", "dup", "call 0"} {
		just := times(impl.MaxStack-1, "push 1")
		verifyIs(t, "a stack that is just full by "+text, programOf(funcOf(t, 0, 1, just+text+"; ret")), impl.VerifyOut{})
		verifyIs(t, "a stack that is too full by "+text, programOf(good(t), funcOf(t, 0, 1, full+text+"; ret")), fault(1, 8, impl.ErrStack))
		verifyIs(t, "a stack that is too full at the end by "+text, programOf(funcOf(t, 0, 1, full+text)), fault(0, 8, impl.ErrStack))
	}
	called := programOf(funcOf(t, 0, 0, full+"call 1; ret"), funcOf(t, 1, 1, "push 1; ret"))
	verifyIs(t, "a call of one arg with a full stack", called, impl.VerifyOut{})
}

func TestGoesOut(t *testing.T) {
	for _, o := range opsSaid(t) {
		if o.name == "ret" || o.name == "jump" {
			continue
		}
		f := funcOf(t, 0, 1, times(3, "push 0")+"push 0")
		f.Code[3] = ins(o.op, 0)
		verifyIs(t, o.name+" at the last place", programOf(good(t), f), fault(1, 3, impl.ErrFlow))
	}
	verifyIs(t, "one push", programOf(funcOf(t, 0, 0, "push 0")), fault(0, 0, impl.ErrFlow))
	verifyIs(t, "a jz back from the last place", programOf(funcOf(t, 0, 0, "push 0; jz 0")), fault(0, 1, impl.ErrFlow))
	verifyIs(t, "a way out that is never reached", programOf(funcOf(t, 0, 0, "push 0; ret; push 0")), impl.VerifyOut{})
	verifyIs(t, "a pop of nothing at the last place", programOf(funcOf(t, 0, 0, "pop")), fault(0, 0, impl.ErrStack))
}

func TestTwoHeights(t *testing.T) {
	for _, c := range []struct {
		what string
		code string
		at   int64
	}{
		{"a jump back to place 0, one higher", "push 1; jump 0", 1},
		{"a jump back, one lower", "push 1; push 2; pop; pop; jump 1", 4},
		{"a next place that was jumped to, one higher", "push 1; jz 3; push 2; push 3; ret", 2},
		{"a next place that was jumped to, one lower", "push 1; dup; jz 4; pop; push 3; ret", 3},
		{"a jz to itself", "push 1; jz 1; push 1; ret", 1},
		{"a jz by its A", "push 1; push 1; jz 0; ret", 2},
		{"a jz by its A to a place further on", "push 1; push 1; jz 5; jz 5; jump 3; ret", 3},
		{"a jz by its next place", "push 1; jz 5; push 2; push 3; jz 3; push 1; ret", 4},
		{"a jz by its A, the next place being of that height", "push 1; jz 5; push 2; push 3; jz 0; push 1; ret", 4},
		{"a jump to a place further on", "push 1; jz 4; push 1; jump 4; push 1; ret", 3},
	} {
		verifyIs(t, c.what, programOf(good(t), funcOf(t, 0, 0, c.code)), fault(1, c.at, impl.ErrStack))
	}
}

// The least place that waits comes first, whether it came to wait first or last.
func TestOrderOfPlaces(t *testing.T) {
	for _, c := range []struct {
		what string
		code string
		want impl.VerifyOut
	}{
		{"the next place ahead of a greater A", "push 1; jz 4; push 1; set; pop; ret", fault(0, 3, impl.ErrStack)},
		{"a lesser A ahead of the next place", "jump 3; pop; ret; push 1; jz 1; pop; ret", fault(0, 1, impl.ErrStack)},
		{"a lesser place ahead of one that waited longer", "jump 4; set; pop; ret; push 1; jz 8; push 1; jz 1; pop; ret", fault(0, 1, impl.ErrStack)},
		{"the last place's fault, if it alone is reached", "jump 3; pop; ret; pop", fault(0, 3, impl.ErrStack)},
		{"a lesser place ahead of a way out", "jump 2; pop; push 1; jz 1; push 1", fault(0, 1, impl.ErrStack)},
		{"a way out ahead of a lesser place that does not wait yet", "jump 3; pop; ret; push 1; jz 1", fault(0, 4, impl.ErrFlow)},
		{"a jz at the last place: its way out ahead of its A", "push 1; push 1; jz 0", fault(0, 2, impl.ErrFlow)},
		{"a jz at the last place that takes too much", "jz 0", fault(0, 0, impl.ErrStack)},
		{"a lesser place that waited longer ahead of a right one", "push 1; jz 4; push 1; jump 5; ret; ret", fault(0, 4, impl.ErrStack)},
		{"which of two that come to a place is at fault", "jump 4; push 1; push 1; jump 7; push 1; jz 1; push 1; pop; push 1; ret", fault(0, 6, impl.ErrStack)},
	} {
		verifyIs(t, c.what, programOf(funcOf(t, 0, 0, c.code)), c.want)
	}
}

// loneFault is a function with one fault, At and Code being where a program of it is refused.
type loneFault struct {
	what string
	f    impl.Func
	at   int64
	code int64
}

func loneFaults(t *testing.T) []loneFault {
	t.Helper()
	return []loneFault{
		{"too many Args", funcOf(t, 5, 5, "push 1; ret"), 0, impl.ErrForm},
		{"Args below 0", funcOf(t, -1, 5, "push 1; ret"), 0, impl.ErrForm},
		{"too few Locals", funcOf(t, 2, 1, "push 1; ret"), 0, impl.ErrForm},
		{"too many Locals", funcOf(t, 2, 9, "push 1; ret"), 0, impl.ErrForm},
		{"no code", impl.Func{}, 0, impl.ErrForm},
		{"too much code", funcOf(t, 0, 0, times(60, "jump 0")+"jump 0"), 0, impl.ErrForm},
		{"an instruction that stands wrong", funcOf(t, 0, 0, "push 1; ret; jump 9; push 1"), 2, impl.ErrForm},
		{"one that takes too much", funcOf(t, 0, 0, "push 1; add; ret"), 1, impl.ErrStack},
		{"one that leaves too much", funcOf(t, 0, 0, times(8, "push 1")+"dup; ret"), 8, impl.ErrStack},
		{"one that goes out", funcOf(t, 0, 0, "push 1; neg; not"), 2, impl.ErrFlow},
		{"one that goes on to another height", funcOf(t, 0, 0, "push 1; push 1; push 1; jump 1"), 3, impl.ErrStack},
		{"a jz with another height at the next place", funcOf(t, 0, 0, "push 1; jz 5; push 2; push 3; jz 3; push 1; ret"), 4, impl.ErrStack},
		{"a jz with another height at A", funcOf(t, 0, 0, "push 1; push 1; jz 1; jz 1; push 1; ret"), 3, impl.ErrStack},
	}
}

// Of two functions with faults the first one is told, whatever the faults are.
func TestFaultsOfTwoFunctions(t *testing.T) {
	for _, a := range loneFaults(t) {
		for f := range impl.MaxFuncs {
			p := programOf(good(t), good(t), good(t), good(t), good(t), good(t))
			p.Funcs[f] = a.f
			verifyIs(t, a.what, p, fault(int64(f), a.at, a.code))
		}
		for _, b := range loneFaults(t) {
			verifyIs(t, a.what+", then "+b.what, programOf(a.f, b.f), fault(0, a.at, a.code))
			verifyIs(t, a.what+", far ahead of "+b.what, programOf(good(t), a.f, good(t), b.f), fault(1, a.at, a.code))
		}
	}
}

// Within a function its sizes come first, then instructions that stand wrong, wherever they are, then what is met as heights are found.
func TestFaultsOfOneFunction(t *testing.T) {
	for _, a := range loneFaults(t) {
		if len(a.f.Code) == 0 || len(a.f.Code) > impl.MaxCode {
			continue
		}
		p := programOf(good(t), a.f)
		p.Funcs[1].Locals = impl.MaxLocals + 1
		verifyIs(t, a.what+" with too many Locals", p, fault(1, 0, impl.ErrForm))
		p.Funcs[1].Locals, p.Funcs[1].Args = -1, -1
		verifyIs(t, a.what+" with Args below 0", p, fault(1, 0, impl.ErrForm))
		if a.code == impl.ErrForm {
			continue
		}
		p = programOf(good(t), a.f)
		p.Funcs[1].Code = append(slices.Clone(a.f.Code), ins(impl.OpPop, 1), ins(impl.OpPop, 1))
		verifyIs(t, a.what+" ahead of one that stands wrong", p, fault(1, int64(len(a.f.Code)), impl.ErrForm))
	}
	for _, c := range []struct {
		code string
		want impl.VerifyOut
	}{
		{"load 9; pop 1; push 1", fault(0, 0, impl.ErrForm)},
		{"pop; load 9", fault(0, 1, impl.ErrForm)},
		{"load 9; pop", fault(0, 0, impl.ErrForm)},
		{"push 1; jump 3; load 9; neg", fault(0, 2, impl.ErrForm)},
		{"pop; push 1", fault(0, 0, impl.ErrStack)},
		{"push 1; jz 3; pop; push 1", fault(0, 2, impl.ErrStack)},
		{"push 1; jz 3; push 1; pop", fault(0, 2, impl.ErrStack)},
		{"push 1; jz 5; push 1; jump 4; jump 0; push 1", fault(0, 4, impl.ErrStack)},
		{"push 1; jz 4; push 1; pop; push 1", fault(0, 4, impl.ErrFlow)},
		{times(8, "push 1") + "push 1; set; set; set", fault(0, 8, impl.ErrStack)},
		{"set; " + times(9, "push 1") + "ret", fault(0, 0, impl.ErrStack)},
	} {
		verifyIs(t, c.code, programOf(funcOf(t, 0, 8, c.code)), c.want)
	}
}

// A call takes what the called function's Args say, also ahead of their being looked at.
func TestCallOfFunctionThatIsNotRight(t *testing.T) {
	for _, c := range []struct {
		what string
		args int64
		code string
		want impl.VerifyOut
	}{
		{"Args 5 with 4 there", 5, times(4, "push 1") + "call 1; ret", fault(0, 4, impl.ErrStack)},
		{"Args 5 with 5 there", 5, times(5, "push 1") + "call 1; ret", fault(1, 0, impl.ErrForm)},
		{"the most Args", math.MaxInt64, times(8, "push 1") + "call 1; ret", fault(0, 8, impl.ErrStack)},
		{"Args -7, which leave a full stack", -7, "call 1; ret", fault(1, 0, impl.ErrForm)},
		{"Args -8, which leave one more", -8, "call 1; ret", fault(0, 0, impl.ErrStack)},
		{"Args below 0 in a call that is not reached", -9, "push 1; ret; call 1", fault(1, 0, impl.ErrForm)},
	} {
		verifyIs(t, c.what, programOf(funcOf(t, 0, 0, c.code), funcOf(t, c.args, 8, "push 1; ret")), c.want)
	}
	for _, args := range []int64{math.MinInt64, math.MinInt64 + 1, math.MinInt64 + 2, math.MinInt64 + 9} {
		p := programOf(funcOf(t, 0, 0, "call 1; call 1; call 1; jump 0"), funcOf(t, args, 8, "push 1; ret"))
		if got := impl.Verify(p); got.Code == impl.OK {
			t.Errorf("a program with Args %d is right", args)
		}
		noLists(t, "a program with the least Args", p, 0)
		noLists(t, "a program with the least Args", p, 1)
	}
}

func saidOf(t *testing.T) map[int64]opSaid {
	t.Helper()
	said := map[int64]opSaid{}
	for _, o := range opsSaid(t) {
		said[o.op] = o
	}
	return said
}

// stackOf is what an instruction takes and puts, by the document's list.
func stackOf(said map[int64]opSaid, p impl.Program, i impl.Ins) (int64, int64) {
	o := said[i.Op]
	if o.arg == "func" {
		return p.Funcs[i.A].Args, o.puts
	}
	return o.takes, o.puts
}

// wentOn are the places to which an instruction goes on.
func wentOn(i impl.Ins, at int64) []int64 {
	if i.Op == impl.OpRet {
		return nil
	}
	if i.Op == impl.OpJump {
		return []int64{i.A}
	}
	if i.Op == impl.OpJz {
		return []int64{at + 1, i.A}
	}
	return []int64{at + 1}
}

type placeHeight struct {
	at, height int64
}

// walked goes every way through a function, with every height at which a place is come to; free: did no way meet a fault?
func walked(said map[int64]opSaid, p impl.Program, f int64) (found map[placeHeight]int, free bool) {
	code := p.Funcs[f].Code
	found = map[placeHeight]int{{0, 0}: 1}
	work := []placeHeight{{0, 0}}
	free = true
	for len(work) > 0 {
		here := work[len(work)-1]
		work = work[:len(work)-1]
		takes, puts := stackOf(said, p, code[here.at])
		left := here.height - takes + puts
		if takes > here.height || left > impl.MaxStack {
			free = false
			continue
		}
		for _, to := range wentOn(code[here.at], here.at) {
			next := placeHeight{to, left}
			if to >= int64(len(code)) {
				free = false
				continue
			}
			if found[next] == 0 {
				found[next] = 1
				work = append(work, next)
			}
		}
	}
	return found, free
}

// heightsWalked are the heights of each place, -1 of none; one: has each place one at most?
func heightsWalked(found map[placeHeight]int, length int) (heights []int64, one bool) {
	heights = slices.Repeat([]int64{-1}, length)
	one = true
	for here := range found {
		if heights[here.at] != -1 && heights[here.at] != here.height {
			one = false
		}
		heights[here.at] = here.height
	}
	return heights, one
}

// headersWalked asks of each place whether a reached jump stands there or behind it that goes to it.
func headersWalked(code []impl.Ins, heights []int64) []int64 {
	var headers []int64
	for head := range code {
		for at := head; at < len(code); at++ {
			if heights[at] != -1 && (code[at].Op == impl.OpJump || code[at].Op == impl.OpJz) && code[at].A == int64(head) {
				headers = append(headers, int64(head))
				break
			}
		}
	}
	return headers
}

// firstMet is the first fault that is met as heights are found, a place waiting if it has a height and was not gone on from.
func firstMet(said map[int64]opSaid, p impl.Program, f int64) (at int64, code int64) {
	l := p.Funcs[f].Code
	heights := slices.Repeat([]int64{-1}, len(l))
	heights[0] = 0
	done := make([]bool, len(l))
	for {
		here := -1
		for k := len(l) - 1; k >= 0; k-- {
			if heights[k] != -1 && !done[k] {
				here = k
			}
		}
		if here < 0 {
			return 0, impl.OK
		}
		done[here] = true
		takes, puts := stackOf(said, p, l[here])
		left := heights[here] - takes + puts
		if takes > heights[here] || left > impl.MaxStack {
			return int64(here), impl.ErrStack
		}
		for _, to := range wentOn(l[here], int64(here)) {
			if to == int64(len(l)) {
				return int64(here), impl.ErrFlow
			}
			if heights[to] != -1 && heights[to] != left {
				return int64(here), impl.ErrStack
			}
			heights[to] = left
		}
	}
}

// Promise 6, and what is told of a program that is not right; its sizes and each instruction are right.
func promiseSix(t *testing.T, said map[int64]opSaid, p impl.Program) int64 {
	t.Helper()
	want := impl.VerifyOut{}
	for f := len(p.Funcs) - 1; f >= 0; f-- {
		found, free := walked(said, p, int64(f))
		_, one := heightsWalked(found, len(p.Funcs[f].Code))
		at, code := firstMet(said, p, int64(f))
		if (code == impl.OK) != (free && one) {
			t.Fatalf("the test's own two ways do not agree on function %d of %+v", f, p)
		}
		if code != impl.OK {
			want = fault(int64(f), at, code)
		}
	}
	got := impl.Verify(p)
	if got != want {
		t.Errorf("Verify of %+v: got %+v, want %+v", p, got, want)
	}
	for f := range p.Funcs {
		var heights, headers []int64
		if want.Code == impl.OK {
			found, _ := walked(said, p, int64(f))
			heights, _ = heightsWalked(found, len(p.Funcs[f].Code))
			headers = headersWalked(p.Funcs[f].Code, heights)
		}
		if got := impl.Heights(p, int64(f)); !slices.Equal(got, heights) {
			t.Errorf("Heights of function %d of %+v: got %v, want %v", f, p, got, heights)
		}
		if got := impl.Headers(p, int64(f)); !slices.Equal(got, headers) {
			t.Errorf("Headers of function %d of %+v: got %v, want %v", f, p, got, headers)
		}
	}
	return want.Code
}

// Every function of up to four instructions of those that differ in what they take, put and where they go on.
func TestShortFunctions(t *testing.T) {
	said := saidOf(t)
	seen := map[int64]int{}
	for length := 1; length <= 4; length++ {
		kinds := codeOf(t, "push 1; dup; pop; add; ret")
		for to := range length {
			kinds = append(kinds, ins(impl.OpJump, int64(to)), ins(impl.OpJz, int64(to)))
		}
		choice := make([]int, length)
		for choice[length-1] < len(kinds) {
			f := impl.Func{}
			for _, k := range choice {
				f.Code = append(f.Code, kinds[k])
			}
			seen[promiseSix(t, said, programOf(f))]++
			choice[0]++
			for k := 0; k < length-1 && choice[k] == len(kinds); k++ {
				choice[k] = 0
				choice[k+1]++
			}
		}
	}
	for _, code := range []int64{impl.OK, impl.ErrStack, impl.ErrFlow} {
		if seen[code] < 50 {
			t.Errorf("only %d functions with code %d were looked at", seen[code], code)
		}
	}
}

// dice tells numbers that look thrown, the same ones each time.
type dice struct {
	u uint64
}

func (d *dice) below(n int) int {
	d.u = d.u*6364136223846793005 + 1442695040888963407
	return int((d.u >> 33) % uint64(n))
}

// thrownFunc keeps the stack from running low or over while code goes straight on, so that a good share is right.
func thrownFunc(d *dice, said []opSaid, funcs []int64, args int64) impl.Func {
	f := impl.Func{Args: args, Locals: max(args, int64(1+d.below(4)))}
	length := 2 + d.below(20)
	height := int64(0)
	for at := range length {
		o := said[d.below(len(said))]
		i := ins(o.op, 0)
		takes := o.takes
		switch o.arg {
		case "local":
			i.A = int64(d.below(int(f.Locals)))
		case "place":
			i.A = int64(d.below(length))
		case "func":
			i.A = int64(d.below(len(funcs)))
			takes = funcs[i.A]
		}
		careful := d.below(40) > 0
		if careful && (takes > height || height-takes+o.puts > impl.MaxStack || i.Op == impl.OpRet && at < length-1) {
			i, takes, o.puts = ins(impl.OpPush, 5), 0, 1
			if height >= impl.MaxStack-2 {
				i, takes, o.puts = ins(impl.OpOut, 0), 1, 0
			}
		}
		if careful && at == length-1 && d.below(8) > 0 {
			i = ins(impl.OpRet, 0)
			if height == 0 {
				i = ins(impl.OpJump, int64(at))
			}
		}
		height = max(0, height-takes+o.puts)
		f.Code = append(f.Code, i)
	}
	return f
}

func thrownProgram(t *testing.T, d *dice) impl.Program {
	t.Helper()
	var funcs []int64
	for range 1 + d.below(3) {
		funcs = append(funcs, int64(d.below(5)))
	}
	var p impl.Program
	for _, args := range funcs {
		p.Funcs = append(p.Funcs, thrownFunc(d, opsSaid(t), funcs, args))
	}
	return p
}

func TestThrownPrograms(t *testing.T) {
	said := saidOf(t)
	d := &dice{u: 4}
	seen := map[int64]int{}
	for range 6000 {
		seen[promiseSix(t, said, thrownProgram(t, d))]++
	}
	for _, code := range []int64{impl.OK, impl.ErrStack, impl.ErrFlow} {
		if seen[code] < 100 {
			t.Errorf("only %d thrown programs with code %d were looked at", seen[code], code)
		}
	}
}

func TestVerifyKeepsNothing(t *testing.T) {
	p := programOf(funcOf(t, 1, 1, "load 0; jz 3; jump 0; push 1; ret"), good(t))
	before := copyProgram(p)
	heights, headers := impl.Heights(p, 0), impl.Headers(p, 0)
	for at := range heights {
		heights[at] = 77
	}
	for at := range headers {
		headers[at] = 77
	}
	verifyIs(t, "a program that is wrong", programOf(funcOf(t, 0, 0, "pop")), fault(0, 0, impl.ErrStack))
	samePrograms(t, "behind Verify, Heights and Headers", p, before, true)
	rightIs(t, "a program asked again", p, 0, []int64{0, 1, 0, 0, 1}, []int64{0})
}

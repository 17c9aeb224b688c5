package tests

import (
	"math"
	"strings"
	"testing"

	"loop.example/g00219/impl"
)

// opLines has an op a line, in the order of their numbers: its number, its name, what its A is, what it takes and what it puts.
const opLines = `1 push number 0 1
2 load local 0 1
3 store local 1 0
4 dup zero 1 2
5 pop zero 1 0
10 add zero 2 1
11 sub zero 2 1
12 mul zero 2 1
13 div zero 2 1
14 rem zero 2 1
15 and zero 2 1
16 or zero 2 1
17 xor zero 2 1
18 shl zero 2 1
19 shr zero 2 1
20 ushr zero 2 1
21 less zero 2 1
22 atmost zero 2 1
23 same zero 2 1
24 neg zero 1 1
25 not zero 1 1
26 byte zero 1 1
27 short zero 1 1
28 int zero 1 1
29 word zero 1 1
30 jump place 0 0
31 jz place 1 0
32 call func 0 1
33 ret zero 1 0
34 new zero 1 1
35 get zero 2 1
36 set zero 3 0
37 len zero 1 1
38 out zero 1 0`

type opSaid struct {
	op, takes, puts int64
	name, arg       string
}

func opsSaid(t *testing.T) []opSaid {
	t.Helper()
	var l []opSaid
	for _, line := range strings.Split(opLines, "\n") {
		w := strings.Split(line, " ")
		l = append(l, opSaid{op: whole(t, w[0]), name: w[1], arg: w[2], takes: whole(t, w[3]), puts: whole(t, w[4])})
	}
	return l
}

func whole(t *testing.T, text string) int64 {
	t.Helper()
	n := int64(0)
	for _, c := range text {
		if c < '0' || c > '9' {
			t.Fatalf("%q is no number", text)
		}
		n = 10*n + int64(c-'0')
	}
	return n
}

// noOps are the numbers between and next to the ops, those that come to an op modulo 2^8, 2^16, 2^32, and the ends.
func noOps() []int64 {
	l := []int64{-38, -10, -5, -1, 0, 6, 7, 8, 9, 39, 40, 64, 100, 256 + 1, 1<<16 + 10, 1<<32 + 32, 1<<32 + 1, -1 << 32,
		math.MaxInt64, math.MinInt64, math.MinInt64 + 1, math.MinInt64 + 32}
	for op := int64(41); op < 1000; op += 7 {
		l = append(l, op, -op)
	}
	return l
}

func ins(op int64, a int64) impl.Ins {
	return impl.Ins{Op: op, A: a}
}

// threeFuncs are functions of 0, 4 and 2 Args, each with other Locals and another length.
func threeFuncs() impl.Program {
	return impl.Program{Funcs: []impl.Func{
		{Args: 0, Locals: 0, Code: []impl.Ins{ins(impl.OpPush, 7), ins(impl.OpRet, 0)}},
		{Args: 4, Locals: 8, Code: []impl.Ins{ins(impl.OpLoad, 3), ins(impl.OpJz, 3), ins(impl.OpJump, 0), ins(impl.OpLoad, 1), ins(impl.OpRet, 0)}},
		{Args: 2, Locals: 3, Code: []impl.Ins{ins(impl.OpCall, 0), ins(impl.OpDup, 0), ins(impl.OpPop, 0), ins(impl.OpRet, 0)}},
	}}
}

func TestOpNumbers(t *testing.T) {
	got := []int64{impl.OpPush, impl.OpLoad, impl.OpStore, impl.OpDup, impl.OpPop, impl.OpJump, impl.OpJz, impl.OpCall,
		impl.OpRet, impl.OpNew, impl.OpGet, impl.OpSet, impl.OpLen, impl.OpOut}
	for at, want := range []int64{1, 2, 3, 4, 5, 30, 31, 32, 33, 34, 35, 36, 37, 38} {
		if got[at] != want {
			t.Errorf("op constant %d of chapter 4: got %d, want %d", at, got[at], want)
		}
	}
}

func TestOpNames(t *testing.T) {
	for _, o := range opsSaid(t) {
		if got := impl.OpName(o.op); got != o.name {
			t.Errorf("OpName(%d): got %q, want %q", o.op, got, o.name)
		}
	}
	for _, op := range noOps() {
		if got := impl.OpName(op); got != "" {
			t.Errorf("OpName(%d): got %q, want the empty text", op, got)
		}
	}
}

// Promise 5.
func TestOpNamesAreTheirOwn(t *testing.T) {
	first := map[string]int64{}
	for op := int64(-300); op <= 70000; op++ {
		name := impl.OpName(op)
		if name == "" {
			continue
		}
		if other, found := first[name]; found {
			t.Errorf("%q is the name of %d and of %d", name, other, op)
		}
		first[name] = op
	}
	if len(first) != 34 {
		t.Errorf("%d ops have a name, want 34", len(first))
	}
	for _, o := range opsSaid(t) {
		if impl.OpName(o.op) == "" {
			t.Errorf("op %d has no name", o.op)
		}
	}
}

func TestTakesAndPuts(t *testing.T) {
	for _, p := range []impl.Program{{}, threeFuncs()} {
		for _, o := range opsSaid(t) {
			for _, a := range []int64{0, 1, 2, 3, -1, 60, math.MaxInt64, math.MinInt64} {
				i := ins(o.op, a)
				if got := impl.Puts(i); got != o.puts {
					t.Errorf("Puts(%+v): got %d, want %d", i, got, o.puts)
				}
				if o.arg == "func" {
					continue
				}
				if got := impl.Takes(p, i); got != o.takes {
					t.Errorf("Takes(%+v): got %d, want %d", i, got, o.takes)
				}
			}
		}
	}
}

func TestTakesOfCall(t *testing.T) {
	p := threeFuncs()
	for a, want := range map[int64]int64{0: 0, 1: 4, 2: 2, 3: 0, 4: 0, 6: 0, -1: 0, -2: 0, 1<<32 + 1: 0, math.MaxInt64: 0, math.MinInt64: 0} {
		if got := impl.Takes(p, ins(impl.OpCall, a)); got != want {
			t.Errorf("Takes of a call of function %d: got %d, want %d", a, got, want)
		}
		if got := impl.Takes(impl.Program{}, ins(impl.OpCall, a)); got != 0 {
			t.Errorf("Takes of a call of function %d of none: got %d, want 0", a, got)
		}
	}
}

func TestTakesAndPutsOfNoOp(t *testing.T) {
	p := threeFuncs()
	for _, op := range noOps() {
		for _, a := range []int64{0, 1, 2, -1} {
			if got := impl.Takes(p, ins(op, a)); got != 0 {
				t.Errorf("Takes of op %d: got %d, want 0", op, got)
			}
			if got := impl.Puts(ins(op, a)); got != 0 {
				t.Errorf("Puts of op %d: got %d, want 0", op, got)
			}
		}
	}
}

// wantRight is told by the count of the As that fit, from 0 on.
func wantRight(p impl.Program, f int64, o opSaid, a int64) bool {
	count := int64(1)
	switch o.arg {
	case "number":
		return true
	case "local":
		count = p.Funcs[f].Locals
	case "place":
		count = int64(len(p.Funcs[f].Code))
	case "func":
		count = int64(len(p.Funcs))
	}
	return 0 <= a && a < count
}

func edgeArgs() []int64 {
	l := []int64{math.MinInt64, math.MinInt64 + 1, -1 << 32, math.MaxInt64, math.MaxInt64 - 1, 1 << 32, 1<<32 + 1, 256, 60}
	for a := int64(-10); a <= 10; a++ {
		l = append(l, a)
	}
	return l
}

func TestInsRight(t *testing.T) {
	p := threeFuncs()
	for f := range int64(len(p.Funcs)) {
		for _, o := range opsSaid(t) {
			for _, a := range edgeArgs() {
				want := wantRight(p, f, o, a)
				if got := impl.InsRight(p, f, ins(o.op, a)); got != want {
					t.Errorf("InsRight of %s %d in function %d: got %t, want %t", o.name, a, f, got, want)
				}
			}
		}
	}
}

func TestInsRightByHand(t *testing.T) {
	p := threeFuncs()
	for _, c := range []struct {
		f    int64
		i    impl.Ins
		want bool
	}{
		{0, ins(impl.OpLoad, 0), false}, // it has no locals
		{0, ins(impl.OpJump, 1), true},
		{0, ins(impl.OpJump, 2), false},
		{1, ins(impl.OpStore, 7), true},
		{1, ins(impl.OpStore, 8), false},
		{1, ins(impl.OpJz, 4), true},
		{1, ins(impl.OpJz, 5), false},
		{2, ins(impl.OpLoad, 2), true}, // a local that is no arg
		{2, ins(impl.OpLoad, 3), false},
		{2, ins(impl.OpLoad, -1), false},
		{2, ins(impl.OpCall, 2), true}, // itself
		{2, ins(impl.OpCall, 3), false},
		{2, ins(impl.OpCall, -1), false},
		{2, ins(impl.OpPush, math.MinInt64), true},
		{2, ins(impl.OpDup, 0), true},
		{2, ins(impl.OpDup, 1), false},
		{2, ins(impl.OpPop, -1), false},
		{2, ins(impl.OpAdd, 1), false},
		{2, ins(impl.OpWord, -1), false},
		{2, ins(impl.OpRet, 1), false},
		{2, ins(impl.OpOut, 2), false},
		{3, ins(impl.OpPush, 0), false},
		{-1, ins(impl.OpPush, 0), false},
	} {
		if got := impl.InsRight(p, c.f, c.i); got != c.want {
			t.Errorf("InsRight of %+v in function %d: got %t, want %t", c.i, c.f, got, c.want)
		}
	}
}

func TestInsRightOfNoFunction(t *testing.T) {
	for _, o := range opsSaid(t) {
		for _, a := range []int64{0, 1, -1} {
			for _, f := range []int64{-1, 3, 4, 1 << 32, math.MaxInt64, math.MinInt64} {
				if impl.InsRight(threeFuncs(), f, ins(o.op, a)) {
					t.Errorf("%s %d stands right in function %d of three", o.name, a, f)
				}
			}
			if impl.InsRight(impl.Program{}, 0, ins(o.op, a)) {
				t.Errorf("%s %d stands right in a program with no function", o.name, a)
			}
		}
	}
}

func TestInsRightOfNoOp(t *testing.T) {
	for _, op := range noOps() {
		for _, a := range []int64{0, 1, -1} {
			if impl.InsRight(threeFuncs(), 1, ins(op, a)) {
				t.Errorf("op %d with A %d stands right", op, a)
			}
		}
	}
}

func TestInsRightOfEmptyFunction(t *testing.T) {
	p := impl.Program{Funcs: []impl.Func{{}, {Args: -1, Locals: -1, Code: []impl.Ins{}}}}
	for f := range int64(2) {
		for _, op := range []int64{impl.OpLoad, impl.OpStore, impl.OpJump, impl.OpJz} {
			for _, a := range []int64{-2, -1, 0, 1} {
				if impl.InsRight(p, f, ins(op, a)) {
					t.Errorf("op %d with A %d stands right in function %d, which has no locals and no code", op, a, f)
				}
			}
		}
		if !impl.InsRight(p, f, ins(impl.OpPush, -1)) || !impl.InsRight(p, f, ins(impl.OpRet, 0)) || !impl.InsRight(p, f, ins(impl.OpCall, 1)) {
			t.Errorf("push -1, ret or call 1 does not stand right in function %d, which has no code", f)
		}
	}
}

func sameFuncs(t *testing.T, what string, a impl.Func, b impl.Func, want bool) {
	t.Helper()
	if got := impl.FuncSame(a, b); got != want {
		t.Errorf("FuncSame, %s: got %t, want %t", what, got, want)
	}
	if got := impl.FuncSame(b, a); got != want {
		t.Errorf("FuncSame, %s, the other way: got %t, want %t", what, got, want)
	}
}

func samePrograms(t *testing.T, what string, a impl.Program, b impl.Program, want bool) {
	t.Helper()
	if got := impl.ProgramSame(a, b); got != want {
		t.Errorf("ProgramSame, %s: got %t, want %t", what, got, want)
	}
	if got := impl.ProgramSame(b, a); got != want {
		t.Errorf("ProgramSame, %s, the other way: got %t, want %t", what, got, want)
	}
}

// changedFuncs are threeFuncs' second one with one thing changed in each.
func changedFuncs() map[string]impl.Func {
	fresh := func() impl.Func { return threeFuncs().Funcs[1] }
	l := map[string]impl.Func{}
	f := fresh()
	f.Args++
	l["another Args"] = f
	f = fresh()
	f.Locals--
	l["another Locals"] = f
	for _, at := range []int{0, 2, 4} {
		f = fresh()
		f.Code[at].Op++
		l["another Op at "+string(rune('0'+at))] = f
		f = fresh()
		f.Code[at].A--
		l["another A at "+string(rune('0'+at))] = f
	}
	f = fresh()
	f.Code[0], f.Code[3] = f.Code[3], f.Code[0]
	l["two instructions changed over"] = f
	f = fresh()
	f.Code = append(f.Code, impl.Ins{})
	l["one instruction more"] = f
	f = fresh()
	f.Code = f.Code[:4]
	l["the last instruction less"] = f
	f = fresh()
	f.Code = f.Code[1:]
	l["the first instruction less"] = f
	f = fresh()
	f.Code = nil
	l["no code"] = f
	return l
}

func TestFuncSame(t *testing.T) {
	sameFuncs(t, "of the same", threeFuncs().Funcs[1], threeFuncs().Funcs[1], true)
	sameFuncs(t, "of the zero ones", impl.Func{}, impl.Func{}, true)
	sameFuncs(t, "of an empty list and none", impl.Func{Args: 1, Code: []impl.Ins{}}, impl.Func{Args: 1}, true)
	sameFuncs(t, "of an empty list and a zero instruction", impl.Func{Code: []impl.Ins{}}, impl.Func{Code: []impl.Ins{{}}}, false)
	sameFuncs(t, "of the same with room behind", impl.Func{Code: make([]impl.Ins, 2, 9)}, impl.Func{Code: make([]impl.Ins, 2)}, true)
	sameFuncs(t, "of Args and Locals changed over", impl.Func{Args: 1, Locals: 2}, impl.Func{Args: 2, Locals: 1}, false)
	for what, f := range changedFuncs() {
		sameFuncs(t, what, threeFuncs().Funcs[1], f, false)
	}
	long := impl.Func{Code: make([]impl.Ins, 1000)}
	other := impl.Func{Code: make([]impl.Ins, 1000)}
	sameFuncs(t, "of more instructions than a right one has", long, other, true)
	other.Code[999].A = 1
	sameFuncs(t, "of more instructions than a right one has, the last one another", long, other, false)
}

func TestProgramSame(t *testing.T) {
	samePrograms(t, "of the same", threeFuncs(), threeFuncs(), true)
	samePrograms(t, "of the zero ones", impl.Program{}, impl.Program{}, true)
	samePrograms(t, "of an empty list and none", impl.Program{Funcs: []impl.Func{}}, impl.Program{}, true)
	samePrograms(t, "of no function and a zero one", impl.Program{}, impl.Program{Funcs: []impl.Func{{}}}, false)
	inner := impl.Program{Funcs: []impl.Func{{Code: []impl.Ins{}}}}
	samePrograms(t, "of an empty code and none", inner, impl.Program{Funcs: []impl.Func{{}}}, true)
	for at := range 3 {
		p := threeFuncs()
		p.Funcs[at].Locals++
		samePrograms(t, "another function", threeFuncs(), p, false)
		p = threeFuncs()
		p.Funcs = p.Funcs[:at]
		samePrograms(t, "some functions alone", threeFuncs(), p, false)
	}
	for what, f := range changedFuncs() {
		p := threeFuncs()
		p.Funcs[1] = f
		samePrograms(t, what, threeFuncs(), p, false)
	}
	p := threeFuncs()
	p.Funcs[0], p.Funcs[2] = p.Funcs[2], p.Funcs[0]
	samePrograms(t, "two functions changed over", threeFuncs(), p, false)
	p = threeFuncs()
	p.Funcs = append(p.Funcs, impl.Func{})
	samePrograms(t, "one function more", threeFuncs(), p, false)
}

func TestFuncsUnchanged(t *testing.T) {
	p := threeFuncs()
	for _, i := range []impl.Ins{ins(impl.OpCall, 1), ins(impl.OpLoad, 2), ins(impl.OpJump, 1), ins(99, 0)} {
		impl.Takes(p, i)
		impl.Puts(i)
		impl.InsRight(p, 1, i)
	}
	impl.FuncSame(p.Funcs[0], p.Funcs[1])
	impl.ProgramSame(p, impl.Program{})
	samePrograms(t, "behind other calls", p, threeFuncs(), true)
}

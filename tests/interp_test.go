package tests

import (
	"fmt"
	"math"
	"slices"
	"strconv"
	"testing"

	"loop.example/g00219/impl"
)

func nums(l ...int64) []int64 {
	return l
}

// told is a State as a text in which an empty list and none are the same.
func told(s impl.State) string {
	return fmt.Sprintf("%+v", s)
}

func stateIs(t *testing.T, what string, got impl.State, want impl.State) {
	t.Helper()
	if told(got) != told(want) {
		t.Errorf("%s:\n got %s\nwant %s", what, told(got), told(want))
	}
}

func copiedFrame(f impl.Frame) impl.Frame {
	f.Locals, f.Stack = slices.Clone(f.Locals), slices.Clone(f.Stack)
	return f
}

func copied(s impl.State) impl.State {
	s.Frames, s.Heap, s.Out = slices.Clone(s.Frames), slices.Clone(s.Heap), slices.Clone(s.Out)
	for at := range s.Frames {
		s.Frames[at] = copiedFrame(s.Frames[at])
	}
	for at := range s.Heap {
		s.Heap[at] = slices.Clone(s.Heap[at])
	}
	return s
}

// listsOf are all lists of numbers in a State, each with all the room that it has.
func listsOf(s impl.State) [][]int64 {
	l := [][]int64{s.Out[:cap(s.Out)]}
	for _, f := range s.Frames {
		l = append(l, f.Locals[:cap(f.Locals)], f.Stack[:cap(f.Stack)])
	}
	for _, array := range s.Heap {
		l = append(l, array[:cap(array)])
	}
	return l
}

// ownMemory spoils an answer: its lists share nothing with each other, nor with what was handed in.
func ownMemory(t *testing.T, what string, answer impl.State, given impl.State) {
	t.Helper()
	before := told(given)
	lists := listsOf(answer)
	for k, list := range lists {
		for at := range list {
			list[at] = int64(700000 + k)
		}
	}
	for k, list := range lists {
		for at := range list {
			if list[at] != int64(700000+k) {
				t.Errorf("%s: two lists of the answer share memory", what)
			}
		}
	}
	for at := range answer.Frames[:cap(answer.Frames)] {
		answer.Frames[:cap(answer.Frames)][at] = impl.Frame{Func: 99}
	}
	for at := range answer.Heap[:cap(answer.Heap)] {
		answer.Heap[:cap(answer.Heap)][at] = nil
	}
	if told(given) != before {
		t.Errorf("%s: the answer shares memory with what was handed in", what)
	}
}

// stepIs holds Step against what is wanted, and looks that s is not changed and nothing of it is shared.
func stepIs(t *testing.T, what string, p impl.Program, s impl.State, want impl.State) {
	t.Helper()
	machineIs(t, "Step of "+what, impl.Step, p, s, want)
}

func runIs(t *testing.T, what string, p impl.Program, s impl.State, want impl.State) {
	t.Helper()
	machineIs(t, "Run of "+what, impl.Run, p, s, want)
}

func machineIs(t *testing.T, what string, call func(impl.Program, impl.State) impl.State, p impl.Program, s impl.State, want impl.State) {
	t.Helper()
	state, program := told(s), copyProgram(p)
	got := call(p, s)
	stateIs(t, what, got, want)
	again := call(p, s)
	if told(s) != state {
		t.Errorf("%s: the State that was handed in is changed", what)
	}
	if !impl.ProgramSame(p, program) {
		t.Errorf("%s: the program that was handed in is changed", what)
	}
	ownMemory(t, what, got, s)
	stateIs(t, what+", asked again", again, want)
}

// handedBack: neither Step nor Run does anything, whether the State is right or not.
func handedBack(t *testing.T, what string, p impl.Program, s impl.State) {
	t.Helper()
	want := copied(s)
	stepIs(t, what, p, s, want)
	runIs(t, what, p, s, want)
}

func rightState(t *testing.T, what string, p impl.Program, s impl.State, want bool) {
	t.Helper()
	before := told(s)
	if got := impl.StateRight(p, s); got != want {
		t.Errorf("StateRight of %s: got %v, want %v\n%s", what, got, want, told(s))
	}
	if told(s) != before {
		t.Errorf("StateRight of %s changed the State", what)
	}
}

// wrongState is refused everywhere, and handed back as it is.
func wrongState(t *testing.T, what string, p impl.Program, s impl.State) {
	t.Helper()
	rightState(t, what, p, s, false)
	handedBack(t, what, p, s)
}

// popped takes one number off a frame's stack.
func popped(f *impl.Frame) int64 {
	n := f.Stack[len(f.Stack)-1]
	f.Stack = f.Stack[:len(f.Stack)-1]
	return n
}

// valueSaid is what the ops of the heap and of arithmetic put, by the document's words; b is what was put last.
func valueSaid(s *impl.State, op int64, a int64, b int64) (n int64, trap int64) {
	switch op {
	case impl.OpNew:
		if len(s.Heap) == 30 || b < 0 || b > 50 {
			return 0, impl.TrapHeap
		}
		s.Heap = append(s.Heap, make([]int64, b))
		return int64(len(s.Heap)), 0
	case impl.OpLen:
		if b <= 0 || b > int64(len(s.Heap)) {
			return 0, impl.TrapHandle
		}
		return int64(len(s.Heap[b-1])), 0
	case impl.OpGet:
		if a <= 0 || a > int64(len(s.Heap)) {
			return 0, impl.TrapHandle
		}
		if b < 0 || b >= int64(len(s.Heap[a-1])) {
			return 0, impl.TrapIndex
		}
		return s.Heap[a-1][b], 0
	case impl.OpDiv, impl.OpRem:
		if b == 0 {
			return 0, impl.TrapZero
		}
	case impl.OpNeg, impl.OpNot, impl.OpByte, impl.OpShort, impl.OpInt, impl.OpWord:
		return wantUnary(op, b), 0
	}
	return wantBinary(op, a, b), 0
}

// setSaid is what OpSet does, by the document's words.
func setSaid(s *impl.State, array int64, at int64, n int64) int64 {
	if array <= 0 || array > int64(len(s.Heap)) {
		return impl.TrapHandle
	}
	if at < 0 || at >= int64(len(s.Heap[array-1])) {
		return impl.TrapIndex
	}
	s.Heap[array-1][at] = n
	return 0
}

// callSaid puts a frame behind those that are there, by the document's words.
func callSaid(p impl.Program, s *impl.State, f int64) int64 {
	if len(s.Frames) == 10 {
		return impl.TrapDeep
	}
	from := &s.Frames[len(s.Frames)-1]
	locals := make([]int64, p.Funcs[f].Locals)
	for at := p.Funcs[f].Args - 1; at >= 0; at-- {
		locals[at] = popped(from)
	}
	s.Frames = append(s.Frames, impl.Frame{Func: f, Locals: locals})
	return 0
}

// retSaid takes the last frame away, by the document's words.
func retSaid(s *impl.State) {
	last := len(s.Frames) - 1
	n := popped(&s.Frames[last])
	s.Frames = s.Frames[:last]
	if last == 0 {
		s.Done, s.Value = true, n
		return
	}
	s.Frames[last-1].Stack = append(s.Frames[last-1].Stack, n)
}

// stepSaid is a step by the document's words, a second way; s is right, not Done, and has Fuel.
func stepSaid(said map[int64]opSaid, p impl.Program, s impl.State) impl.State {
	s = copied(s)
	s.Fuel--
	f := &s.Frames[len(s.Frames)-1]
	i := p.Funcs[f.Func].Code[f.Pc]
	f.Pc++
	trap := int64(0)
	switch i.Op {
	case impl.OpPush:
		f.Stack = append(f.Stack, i.A)
	case impl.OpLoad:
		f.Stack = append(f.Stack, f.Locals[i.A])
	case impl.OpStore:
		f.Locals[i.A] = popped(f)
	case impl.OpDup:
		f.Stack = append(f.Stack, f.Stack[len(f.Stack)-1])
	case impl.OpPop:
		popped(f)
	case impl.OpJump:
		f.Pc = i.A
	case impl.OpJz:
		if popped(f) == 0 {
			f.Pc = i.A
		}
	case impl.OpCall:
		trap = callSaid(p, &s, i.A)
	case impl.OpRet:
		retSaid(&s)
	case impl.OpSet:
		n, at, array := popped(f), popped(f), popped(f)
		trap = setSaid(&s, array, at, n)
	case impl.OpOut:
		s.Out = append(s.Out, popped(f))
	default:
		var a, n int64
		b := popped(f)
		if said[i.Op].takes == 2 {
			a = popped(f)
		}
		n, trap = valueSaid(&s, i.Op, a, b)
		f.Stack = append(f.Stack, n)
	}
	if trap != 0 {
		s.Frames, s.Done, s.Trap = nil, true, trap
	}
	return s
}

// heightsOf are the heights of all functions of a right program, by every way through them.
func heightsOf(said map[int64]opSaid, p impl.Program) [][]int64 {
	var all [][]int64
	for f := range p.Funcs {
		found, _ := walked(said, p, int64(f))
		heights, _ := heightsWalked(found, len(p.Funcs[f].Code))
		all = append(all, heights)
	}
	return all
}

// frameSaid asks of the frame at k what the document asks of it.
func frameSaid(p impl.Program, heights [][]int64, l []impl.Frame, k int) bool {
	f := l[k]
	if f.Func < 0 || f.Func >= int64(len(p.Funcs)) || int64(len(f.Locals)) != p.Funcs[f.Func].Locals {
		return false
	}
	if f.Pc < 0 || f.Pc >= int64(len(heights[f.Func])) || heights[f.Func][f.Pc] == -1 {
		return false
	}
	height := heights[f.Func][f.Pc]
	if k == len(l)-1 {
		return int64(len(f.Stack)) == height
	}
	if f.Pc == 0 || heights[f.Func][f.Pc-1] == -1 {
		return false
	}
	call := p.Funcs[f.Func].Code[f.Pc-1]
	return call.Op == impl.OpCall && call.A == l[k+1].Func && int64(len(f.Stack)) == height-1
}

// rightSaid asks of a State what the document asks of it, a second way; the program is right.
func rightSaid(p impl.Program, heights [][]int64, s impl.State) bool {
	if s.Fuel < 0 || s.Fuel > 3000 || len(s.Heap) > 30 || int64(len(s.Out)) > 3000-s.Fuel {
		return false
	}
	for _, array := range s.Heap {
		if len(array) > 50 {
			return false
		}
	}
	if s.Done {
		traps := []int64{impl.TrapZero, impl.TrapIndex, impl.TrapHandle, impl.TrapHeap, impl.TrapDeep}
		return len(s.Frames) == 0 && (s.Trap == 0 || s.Value == 0 && slices.Contains(traps, s.Trap))
	}
	for k := range s.Frames {
		if !frameSaid(p, heights, s.Frames, k) {
			return false
		}
	}
	return s.Value == 0 && s.Trap == 0 && len(s.Frames) >= 1 && len(s.Frames) <= 10
}

func TestMachineConstants(t *testing.T) {
	if got := nums(impl.MaxFrames, impl.MaxArrays, impl.MaxArray, impl.MaxFuel); !slices.Equal(got, nums(10, 30, 50, 3000)) {
		t.Errorf("the constants of chapter 7: got %v", got)
	}
}

// beginIs holds Begin against what is wanted, and looks that args and program are not changed, nor shared.
func beginIs(t *testing.T, what string, p impl.Program, f int64, args []int64, fuel int64, want impl.State) {
	t.Helper()
	given, program := slices.Clone(args), copyProgram(p)
	got := impl.Begin(p, f, args, fuel)
	stateIs(t, "Begin of "+what, got, want)
	again := impl.Begin(p, f, args, fuel)
	ownMemory(t, "Begin of "+what, got, impl.State{Out: args})
	if !slices.Equal(args, given) || !impl.ProgramSame(p, program) {
		t.Errorf("Begin of %s changed what was handed in", what)
	}
	stateIs(t, "Begin of "+what+", asked again", again, want)
	rightState(t, "Begin of "+what, p, again, len(want.Frames) > 0)
}

// argsProgram has functions of 0 to 4 Args, with from none to all Locals beside them.
func argsProgram(t *testing.T) impl.Program {
	t.Helper()
	return programOf(
		funcOf(t, 0, 0, "push 1; ret"),
		funcOf(t, 1, 1, "load 0; ret"),
		funcOf(t, 2, 5, "load 4; ret"),
		funcOf(t, 3, 8, "load 7; ret"),
		funcOf(t, 4, 4, "load 3; ret"),
		funcOf(t, 0, 8, "load 7; ret"),
	)
}

func TestBegin(t *testing.T) {
	p := argsProgram(t)
	for _, c := range []struct {
		f      int64
		args   []int64
		locals []int64
	}{
		{0, nil, nil},
		{0, []int64{}, nil},
		{1, nums(7), nums(7)},
		{2, nums(7, -8), nums(7, -8, 0, 0, 0)},
		{3, nums(math.MaxInt64, math.MinInt64, 0), nums(math.MaxInt64, math.MinInt64, 0, 0, 0, 0, 0, 0)},
		{4, nums(1, 2, 3, 4), nums(1, 2, 3, 4)},
		{5, nil, make([]int64, 8)},
	} {
		for _, fuel := range nums(0, 1, 2, 100, impl.MaxFuel-1, impl.MaxFuel) {
			want := impl.State{Frames: []impl.Frame{{Func: c.f, Locals: c.locals}}, Fuel: fuel}
			beginIs(t, fmt.Sprint("function ", c.f, " with fuel ", fuel), p, c.f, c.args, fuel, want)
		}
	}
}

func TestBeginRefused(t *testing.T) {
	p := argsProgram(t)
	zero := impl.State{}
	for _, fuel := range nums(-1, -2, impl.MaxFuel+1, impl.MaxFuel+2, 1<<32, 1<<32+5, -1<<32, math.MaxInt64, math.MinInt64) {
		beginIs(t, "a fuel out of bounds", p, 1, nums(5), fuel, zero)
	}
	for _, f := range nums(-1, -2, 6, 7, 1<<32, 1<<32+1, -1<<32, math.MaxInt64, math.MinInt64) {
		for args := range 5 {
			beginIs(t, "a function that is not there", p, f, make([]int64, args), 9, zero)
		}
	}
	for f, want := range []int{0, 1, 2, 3, 4, 0} {
		for _, n := range []int{0, 1, 2, 3, 4, 5, 6, 8, impl.MaxList, impl.MaxList + 1, 256 + want, 1<<16 + want} {
			if n != want {
				beginIs(t, fmt.Sprint(n, " args for ", want), p, int64(f), make([]int64, n), 9, zero)
			}
		}
	}
	for _, wrong := range loneFaults(t) {
		beginIs(t, "a program with "+wrong.what, programOf(good(t), wrong.f), 0, nil, 9, zero)
	}
	beginIs(t, "no program", impl.Program{}, 0, nil, 9, zero)
	seven := programOf(good(t), good(t), good(t), good(t), good(t), good(t), good(t))
	beginIs(t, "a program of too many functions", seven, 0, nil, 9, zero)
}

// before is a State ahead of an instruction at that height; there are three arrays, and some numbers were put out.
func before(t *testing.T, text string, stack ...int64) (impl.Program, impl.State) {
	t.Helper()
	p := programOf(
		funcOf(t, 0, 3, times(len(stack), "push 0")+text+"; push 1; ret"),
		funcOf(t, 2, 4, "load 0; load 1; sub; ret"),
		funcOf(t, 0, 0, "push 6; ret"),
		funcOf(t, 4, 4, "load 3; ret"),
	)
	return p, impl.State{
		Frames: []impl.Frame{{Pc: int64(len(stack)), Locals: nums(11, 12, 13), Stack: stack}},
		Heap:   [][]int64{{1, 2}, {}, {7, 8, 9}},
		Out:    nums(5, -5),
		Fuel:   100,
	}
}

// eachOp has what is on the stack ahead of an instruction and behind it, and what else is another one then.
type eachOp struct {
	text   string
	ahead  []int64
	behind []int64
	more   func(s *impl.State)
}

func eachOps() []eachOp {
	return []eachOp{
		{"push 7", nil, nums(7), nil},
		{"push -9223372036854775808; pop", nums(1, 2, 3, 4, 5, 6, 7), nums(1, 2, 3, 4, 5, 6, 7, math.MinInt64), nil},
		{"load 0", nil, nums(11), nil},
		{"load 2", nums(4), nums(4, 13), nil},
		{"store 0", nums(4, 5), nums(4), func(s *impl.State) { s.Frames[0].Locals = nums(5, 12, 13) }},
		{"store 2", nums(5), nil, func(s *impl.State) { s.Frames[0].Locals = nums(11, 12, 5) }},
		{"dup", nums(4, 5), nums(4, 5, 5), nil},
		{"pop", nums(4, 5), nums(4), nil},
		{"pop", nums(4), nil, nil},
		{"jump 0", nil, nil, func(s *impl.State) { s.Frames[0].Pc = 0 }},
		{"jump 2; jump 2", nums(4), nums(4), func(s *impl.State) { s.Frames[0].Pc = 2 }},
		{"jz 0", nums(0), nil, func(s *impl.State) { s.Frames[0].Pc = 0 }},
		{"jz 0", nums(1), nil, nil},
		{"jz 0", nums(-1), nil, nil},
		{"jz 4; neg", nums(4, 0), nums(4), func(s *impl.State) { s.Frames[0].Pc = 4 }},
		{"jz 1", nums(5, math.MinInt64), nums(5), nil},
		{"jz 1", nums(5, 1<<32), nums(5), nil},
		{"call 1", nums(4, 5, 6), nums(4), func(s *impl.State) {
			s.Frames = append(s.Frames, impl.Frame{Func: 1, Locals: nums(5, 6, 0, 0)})
		}},
		{"call 2", nums(4), nums(4), func(s *impl.State) { s.Frames = append(s.Frames, impl.Frame{Func: 2}) }},
		{"call 0", nil, nil, func(s *impl.State) { s.Frames = append(s.Frames, impl.Frame{Locals: nums(0, 0, 0)}) }},
		{"call 3", nums(8, 5, 6, 7, 8), nums(8), func(s *impl.State) {
			s.Frames = append(s.Frames, impl.Frame{Func: 3, Locals: nums(5, 6, 7, 8)})
		}},
		{"ret", nums(4, 5), nil, func(s *impl.State) { s.Frames, s.Done, s.Value = nil, true, 5 }},
		{"ret", nums(-5), nil, func(s *impl.State) { s.Frames, s.Done, s.Value = nil, true, -5 }},
		{"ret", nums(0), nil, func(s *impl.State) { s.Frames, s.Done = nil, true }},
		{"new", nums(4, 3), nums(4, 4), func(s *impl.State) { s.Heap = append(s.Heap, nums(0, 0, 0)) }},
		{"new", nums(0), nums(4), func(s *impl.State) { s.Heap = append(s.Heap, nil) }},
		{"new", nums(50), nums(4), func(s *impl.State) { s.Heap = append(s.Heap, make([]int64, 50)) }},
		{"get", nums(4, 1, 0), nums(4, 1), nil},
		{"get", nums(1, 1), nums(2), nil},
		{"get", nums(3, 0), nums(7), nil},
		{"get", nums(3, 2), nums(9), nil},
		{"set", nums(4, 1, 0, 33), nums(4), func(s *impl.State) { s.Heap[0] = nums(33, 2) }},
		{"set", nums(1, 1, -33), nil, func(s *impl.State) { s.Heap[0] = nums(1, -33) }},
		{"set", nums(3, 2, 0), nil, func(s *impl.State) { s.Heap[2] = nums(7, 8, 0) }},
		{"len", nums(4, 1), nums(4, 2), nil},
		{"len", nums(2), nums(0), nil},
		{"len", nums(3), nums(3), nil},
		{"out", nums(4, 6), nums(4), func(s *impl.State) { s.Out = nums(5, -5, 6) }},
	}
}

// Of each op by itself what it takes and puts, and that it leaves all else as it is.
func TestStepOfEachOp(t *testing.T) {
	seen := map[int64]int{}
	for _, c := range eachOps() {
		p, s := before(t, c.text, c.ahead...)
		seen[p.Funcs[0].Code[s.Frames[0].Pc].Op]++
		want := copied(s)
		want.Fuel--
		want.Frames[0].Pc++
		want.Frames[0].Stack = c.behind
		if c.more != nil {
			c.more(&want)
		}
		rightState(t, c.text, p, s, true)
		stepIs(t, c.text, p, s, want)
		rightState(t, c.text+" behind it", p, impl.Step(p, s), true)
		s.Fuel = 1
		want.Fuel = 0
		runIs(t, c.text+" with fuel 1", p, s, want)
	}
	for _, o := range opsSaid(t) {
		if seen[o.op] == 0 && (o.op < impl.OpAdd || o.op > impl.OpWord) {
			t.Errorf("%s was not stepped by itself", o.name)
		}
	}
}

// The ops of chapter 3 take the first one as a, the last one as b.
func TestStepOfArithmetic(t *testing.T) {
	for _, o := range opsSaid(t) {
		if o.op < impl.OpAdd || o.op > impl.OpWord {
			continue
		}
		for _, a := range nums(0, 1, -1, 7, -300, 1<<40+5, math.MaxInt64, math.MinInt64) {
			for _, b := range nums(0, 1, -1, 3, 64, -40000, math.MaxInt64, math.MinInt64) {
				p, s := before(t, o.name, 4, a, b)
				want := copied(s)
				want.Fuel--
				want.Frames[0].Pc++
				n, trap := valueSaid(&want, o.op, a, b)
				want.Frames[0].Stack = append(nums(4, a)[:3-o.takes], n)
				if trap != 0 {
					want.Frames, want.Done, want.Trap = nil, true, trap
				}
				stepIs(t, fmt.Sprint(o.name, " of ", a, " and ", b), p, s, want)
			}
		}
	}
}

// What a call gives back is put onto the stack of the frame ahead of it, wherever that stands.
func TestStepOfRetInACall(t *testing.T) {
	p, s := before(t, "call 1; out", 3, 4)
	s.Frames[0].Pc, s.Frames[0].Stack = 3, nil
	inner := impl.Frame{Func: 1, Pc: 3, Locals: nums(1, 2, 3, 4), Stack: nums(-9)}
	s.Frames = append(s.Frames, inner)
	want := copied(s)
	want.Fuel--
	want.Frames = want.Frames[:1]
	want.Frames[0].Stack = nums(-9)
	rightState(t, "a frame behind a call", p, s, true)
	stepIs(t, "ret in a call", p, s, want)

	deep := programOf(funcOf(t, 2, 2, "load 0; load 0; load 1; call 0; add; ret"))
	three := impl.State{Fuel: 4, Frames: []impl.Frame{
		{Pc: 4, Locals: nums(1, 2), Stack: nums(10)},
		{Pc: 4, Locals: nums(3, 4), Stack: nums(20)},
		{Pc: 5, Locals: nums(5, 6), Stack: nums(30)},
	}}
	want = copied(three)
	want.Fuel, want.Frames = 3, want.Frames[:2]
	want.Frames[1].Stack = nums(20, 30)
	stepIs(t, "ret in a call in a call", deep, three, want)
	stateIs(t, "what four steps leave", impl.Run(deep, three), impl.State{Frames: []impl.Frame{{Pc: 5, Locals: nums(1, 2), Stack: nums(60)}}})
}

type trapCase struct {
	text  string
	stack []int64
	trap  int64
}

func trapCases() []trapCase {
	l := []trapCase{
		{"div", nums(4, 7, 0), impl.TrapZero},
		{"rem", nums(7, 0), impl.TrapZero},
		{"div", nums(0, 0), impl.TrapZero},
		{"rem", nums(math.MinInt64, 0), impl.TrapZero},
	}
	for _, size := range nums(-1, -2, 51, 52, 1<<32, 1<<32+3, -1<<32, math.MaxInt64, math.MinInt64) {
		l = append(l, trapCase{"new", nums(4, size), impl.TrapHeap})
	}
	for _, array := range nums(0, -1, 4, 5, -3, 1<<32+1, -1<<32+1, math.MaxInt64, math.MinInt64) {
		l = append(l, trapCase{"len", nums(4, array), impl.TrapHandle})
		for _, at := range nums(0, 1, -1, 3, 50, math.MaxInt64, math.MinInt64) {
			l = append(l, trapCase{"get", nums(4, array, at), impl.TrapHandle})
			l = append(l, trapCase{"set", nums(array, at, 1), impl.TrapHandle})
		}
	}
	for array, size := range nums(2, 0, 3) {
		for _, at := range nums(-1, -2, size, size+1, 50, 1<<32, -1<<32, math.MaxInt64, math.MinInt64) {
			l = append(l, trapCase{"get", nums(int64(array+1), at), impl.TrapIndex})
			l = append(l, trapCase{"set", nums(4, int64(array+1), at, 1), impl.TrapIndex})
		}
	}
	return l
}

// Each trap by itself: Heap, Out and the rest of the Fuel stand beside it, and nothing else does.
func TestTraps(t *testing.T) {
	for _, c := range trapCases() {
		what := fmt.Sprint(c.text, " of ", c.stack)
		p, s := before(t, c.text, c.stack...)
		want := impl.State{Heap: s.Heap, Out: s.Out, Fuel: 99, Done: true, Trap: c.trap}
		rightState(t, what, p, s, true)
		stepIs(t, what, p, s, want)
		runIs(t, what, p, s, want)
		handedBack(t, "what is left by "+what, p, want)
		rightState(t, "what is left by "+what, p, want, true)
	}
}

// A trap in a call takes all frames with it.
func TestTrapsInACall(t *testing.T) {
	for _, c := range trapCases() {
		what := fmt.Sprint(c.text, " of ", c.stack, " in a call")
		p, s := before(t, c.text, c.stack...)
		p.Funcs = append(p.Funcs, funcOf(t, 0, 1, "push 8; call 0; add; ret"))
		s.Frames = []impl.Frame{{Func: 4, Pc: 2, Locals: nums(6), Stack: nums(8)}, s.Frames[0]}
		rightState(t, what, p, s, true)
		stepIs(t, what, p, s, impl.State{Heap: s.Heap, Out: s.Out, Fuel: 99, Done: true, Trap: c.trap})
		s.Fuel = 1
		runIs(t, what, p, s, impl.State{Heap: s.Heap, Out: s.Out, Done: true, Trap: c.trap})
	}
}

// heapOf has so many arrays, each with its number as its only one.
func heapOf(n int) [][]int64 {
	var heap [][]int64
	for at := range n {
		heap = append(heap, nums(int64(at+1)))
	}
	return heap
}

func TestMostArrays(t *testing.T) {
	for _, size := range nums(0, 1, 50) {
		p, s := before(t, "new", 4, size)
		s.Heap = heapOf(29)
		want := copied(s)
		want.Fuel--
		want.Heap = append(want.Heap, make([]int64, size))
		want.Frames[0].Pc, want.Frames[0].Stack = 3, nums(4, 30)
		stepIs(t, "the last array there may be", p, s, want)
		rightState(t, "the last array there may be", p, want, true)
		s.Heap = heapOf(30)
		rightState(t, "as many arrays as there may be", p, s, true)
		stepIs(t, "one array more", p, s, impl.State{Heap: heapOf(30), Out: s.Out, Fuel: 99, Done: true, Trap: impl.TrapHeap})
	}
	p, s := before(t, "new", 51)
	s.Heap = heapOf(30)
	stepIs(t, "one array more that is too long", p, s, impl.State{Heap: heapOf(30), Out: s.Out, Fuel: 99, Done: true, Trap: impl.TrapHeap})
	for _, array := range nums(1, 2, 29, 30) {
		p, s := before(t, "get", array, 0)
		s.Heap = heapOf(30)
		want := copied(s)
		want.Fuel--
		want.Frames[0].Pc, want.Frames[0].Stack = 3, nums(array)
		stepIs(t, "get of one of thirty arrays", p, s, want)
	}
	for _, array := range nums(0, 31) {
		p, s := before(t, "len", array)
		s.Heap = heapOf(30)
		stepIs(t, "len beside thirty arrays", p, s, impl.State{Heap: heapOf(30), Out: s.Out, Fuel: 99, Done: true, Trap: impl.TrapHandle})
	}
}

// The places of an array of MaxArray numbers, and those beside them.
func TestLongestArray(t *testing.T) {
	for _, at := range nums(-1, 0, 1, 48, 49, 50, 51) {
		p, s := before(t, "set", 4, at, 77)
		s.Heap = append(s.Heap, make([]int64, 50))
		want := copied(s)
		want.Fuel--
		want.Frames[0].Pc, want.Frames[0].Stack = 4, nil
		if at < 0 || at > 49 {
			want = impl.State{Heap: s.Heap, Out: s.Out, Fuel: 99, Done: true, Trap: impl.TrapIndex}
		} else {
			want.Heap[3][at] = 77
		}
		stepIs(t, fmt.Sprint("set at ", at, " of the longest array"), p, s, want)
	}
}

// framesOf has so many frames of a function that calls itself, at its first place in the last one.
func framesOf(t *testing.T, n int) (impl.Program, impl.State) {
	t.Helper()
	p := programOf(funcOf(t, 1, 1, "load 0; call 0; ret"))
	var s impl.State
	for at := range n {
		s.Frames = append(s.Frames, impl.Frame{Pc: 2, Locals: nums(int64(at))})
	}
	s.Frames[n-1].Pc, s.Frames[n-1].Stack = 1, nums(33)
	s.Fuel = 50
	return p, s
}

func TestMostFrames(t *testing.T) {
	for n := 1; n <= 10; n++ {
		p, s := framesOf(t, n)
		want := copied(s)
		want.Fuel--
		want.Frames[n-1].Pc, want.Frames[n-1].Stack = 2, nil
		want.Frames = append(want.Frames, impl.Frame{Locals: nums(33)})
		if n == 10 {
			want = impl.State{Fuel: 49, Done: true, Trap: impl.TrapDeep}
		}
		rightState(t, fmt.Sprint(n, " frames"), p, s, true)
		stepIs(t, fmt.Sprint("a call in ", n, " frames"), p, s, want)
	}
	p, s := framesOf(t, 11)
	wrongState(t, "eleven frames", p, s)
	p = programOf(funcOf(t, 0, 0, "push 3; new; out; push 2; out; call 0; ret"))
	end := impl.Run(p, impl.Begin(p, 0, nil, 100))
	stateIs(t, "calls without end", end, impl.State{
		Heap: slices.Repeat([][]int64{{0, 0, 0}}, 10),
		Out:  nums(1, 2, 2, 2, 3, 2, 4, 2, 5, 2, 6, 2, 7, 2, 8, 2, 9, 2, 10, 2),
		Fuel: 40, Done: true, Trap: impl.TrapDeep,
	})
}

// A function that calls itself tells how often it did, as long as there are frames for it.
func TestFramesThatAllComeBack(t *testing.T) {
	p := programOf(funcOf(t, 1, 1, "load 0; jz 9; load 0; push 1; sub; call 0; push 1; add; ret; push 0; ret"))
	for n := range int64(12) {
		want := impl.State{Fuel: 1000 - 9*n - 4, Done: true, Value: n}
		if n > 9 {
			want = impl.State{Fuel: 1000 - 60, Done: true, Trap: impl.TrapDeep}
		}
		runIs(t, fmt.Sprint("a call in itself, ", n, " times"), p, impl.Begin(p, 0, nums(n), 1000), want)
	}
}

func TestRunPrograms(t *testing.T) {
	product := funcOf(t, 1, 2, "push 1; store 1; load 0; jz 13; load 1; load 0; mul; store 1; load 0; push 1; sub; store 0; jump 2; load 1; ret")
	inEachOther := []impl.Func{
		funcOf(t, 2, 2, "load 0; load 1; call 1; load 1; load 0; call 1; out; ret"),
		funcOf(t, 2, 3, "load 0; call 2; store 2; load 2; load 1; call 2; sub; ret"),
		funcOf(t, 1, 1, "load 0; load 0; mul; dup; out; ret"),
	}
	// An array of so many numbers is filled with squares, and its numbers are put out from the last one on.
	squares := funcOf(t, 1, 3, "load 0; new; store 1; load 2; load 0; less; jz 18; load 1; load 2; load 2; load 2; mul; set; "+
		"load 2; push 1; add; store 2; jump 3; "+
		"load 2; jz 29; load 2; push 1; sub; store 2; load 1; load 2; get; out; jump 18; load 1; len; ret")
	for _, c := range []struct {
		what string
		p    impl.Program
		args []int64
		want impl.State
	}{
		{"a product", programOf(product), nums(5), impl.State{Fuel: 1000 - 2 - 11*5 - 4, Value: 120}},
		{"an empty product", programOf(product), nums(0), impl.State{Fuel: 1000 - 6, Value: 1}},
		{"a product beyond 64 bits", programOf(product), nums(66), impl.State{Fuel: 1000 - 2 - 11*66 - 4}},
		{"a product without end", programOf(product), nums(-1), impl.State{Frames: []impl.Frame{{Pc: 10, Locals: nums(-91, 0), Stack: nums(-91, 1)}}}},
		{"calls in calls", programOf(inEachOther...), nums(5, 3), impl.State{Out: nums(25, 9, 9, 25, -16), Fuel: 1000 - 8 - 16 - 24, Value: 16}},
		{"squares", programOf(squares), nums(4), impl.State{Heap: [][]int64{{0, 1, 4, 9}}, Out: nums(9, 4, 1, 0), Fuel: 1000 - 3 - 4*15 - 4 - 4*11 - 2 - 3, Value: 4}},
		{"no squares", programOf(squares), nums(0), impl.State{Heap: [][]int64{{}}, Fuel: 1000 - 3 - 4 - 2 - 3}},
		{"too many squares", programOf(squares), nums(51), impl.State{Fuel: 998, Trap: impl.TrapHeap}},
	} {
		s := impl.Begin(c.p, 0, c.args, 1000)
		c.want.Done = len(c.want.Frames) == 0
		runIs(t, c.what, c.p, s, c.want)
	}
}

func TestFuel(t *testing.T) {
	p := programOf(funcOf(t, 0, 0, "push 1; out; jump 0"))
	for _, fuel := range nums(0, 1, 2, 3, 4, 5, 2998, 2999, 3000) {
		want := impl.State{Frames: []impl.Frame{{Pc: fuel % 3}}, Out: slices.Repeat(nums(1), int(fuel+1)/3)}
		if fuel%3 == 1 {
			want.Frames[0].Stack = nums(1)
		}
		s := impl.Begin(p, 0, nil, fuel)
		runIs(t, fmt.Sprint("a loop with fuel ", fuel), p, s, want)
		rightState(t, fmt.Sprint("a loop with fuel ", fuel), p, want, true)
		handedBack(t, fmt.Sprint("what a loop left, with fuel ", fuel), p, want)
		s.Fuel = impl.MaxFuel + 1 + fuel
		wrongState(t, "more fuel than there may be", p, s)
	}
	ret := programOf(good(t))
	runIs(t, "just as much fuel as it takes", ret, impl.Begin(ret, 0, nil, 2), impl.State{Done: true, Value: 1})
	runIs(t, "one fuel fewer than it takes", ret, impl.Begin(ret, 0, nil, 1), impl.State{Frames: []impl.Frame{{Pc: 1, Stack: nums(1)}}})
	runIs(t, "as much fuel as there may be", ret, impl.Begin(ret, 0, nil, 3000), impl.State{Fuel: 2998, Done: true, Value: 1})
}

// threeDeep has a program with a call that is not reached, and a right State of three frames, each of another function.
func threeDeep(t *testing.T) (impl.Program, impl.State) {
	t.Helper()
	p := programOf(
		funcOf(t, 1, 2, "push 9; load 0; push 5; call 1; out; pop; call 2; ret; call 1; pop; ret"),
		funcOf(t, 2, 3, "load 0; load 1; call 2; add; add; ret; call 2; call 2; add; ret"),
		funcOf(t, 0, 1, "push 1; push 2; mul; ret"),
	)
	return p, impl.State{
		Frames: []impl.Frame{
			{Func: 0, Pc: 4, Locals: nums(4, 5), Stack: nums(9)},
			{Func: 1, Pc: 3, Locals: nums(1, 2, 3), Stack: nums(6, 7)},
			{Func: 2, Pc: 2, Locals: nums(8), Stack: nums(3, 4)},
		},
		Heap: [][]int64{{1, 2}, {}, {7}},
		Out:  nums(1, -1),
		Fuel: 20,
	}
}

// change is one thing that is another one in a State.
type change struct {
	what string
	do   func(s *impl.State)
}

// ofFrame is a change of one frame, whichever it is.
func ofFrame(k int, what string, do func(f *impl.Frame)) change {
	return change{what + " of frame " + strconv.Itoa(k), func(s *impl.State) { do(&s.Frames[k]) }}
}

func wrongFrames() []change {
	var l []change
	lengths := [][2]int{{2, 1}, {3, 2}, {1, 2}}
	for k, sizes := range lengths {
		for _, f := range nums(-1, 3, 4, 1<<32+int64(k), -1<<32, math.MaxInt64, math.MinInt64, int64(k+1)%3, int64(k+2)%3) {
			l = append(l, ofFrame(k, fmt.Sprint("Func ", f), func(x *impl.Frame) { x.Func = f }))
		}
		for _, pc := range nums(-1, 0, 1, 10, 11, 60, 1<<32+4, -1<<32, math.MaxInt64, math.MinInt64, math.MinInt64+1) {
			l = append(l, ofFrame(k, fmt.Sprint("Pc ", pc), func(x *impl.Frame) { x.Pc = pc }))
		}
		for n := range 10 {
			if n != sizes[0] {
				l = append(l, ofFrame(k, fmt.Sprint(n, " Locals"), func(x *impl.Frame) { x.Locals = make([]int64, n) }))
			}
			if n != sizes[1] {
				l = append(l, ofFrame(k, fmt.Sprint(n, " on the Stack"), func(x *impl.Frame) { x.Stack = make([]int64, n) }))
			}
		}
		l = append(l, ofFrame(k, "500 Locals", func(x *impl.Frame) { x.Locals = make([]int64, 500) }))
		l = append(l, ofFrame(k, "500 on the Stack", func(x *impl.Frame) { x.Stack = make([]int64, 500) }))
		l = append(l, ofFrame(k, "nothing", func(x *impl.Frame) { *x = impl.Frame{} }))
	}
	at := func(k int, what string, pc int64, stack ...int64) change {
		return ofFrame(k, what, func(x *impl.Frame) { x.Pc, x.Stack = pc, stack })
	}
	return append(l,
		at(0, "the Pc at the call", 3, 9, 4, 5),
		at(0, "the Pc at the call, less one number", 3, 9, 4),
		at(0, "the Pc two behind the call", 5, 9),
		at(0, "the Pc two behind the call, less one number", 5),
		at(0, "the Pc behind a call of another function", 7),
		at(0, "the Pc behind a call that is not reached", 9),
		at(0, "the Pc at a call that is not reached", 8),
		at(0, "what the call puts", 4, 9, 1),
		at(1, "the Pc at the call", 2, 6, 7),
		at(1, "the Pc behind no call", 4, 6),
		at(1, "the Pc behind a call that is not reached", 7),
		at(1, "the Pc behind another call that is not reached", 8, 1),
		at(1, "what the call puts", 3, 6, 7, 8),
		at(2, "the Pc behind the code", 4, 1),
		at(2, "one number fewer", 2, 3),
		at(2, "one number more", 2, 3, 4, 5),
	)
}

func wrongWholes() []change {
	l := []change{
		{"no Frames", func(s *impl.State) { s.Frames = nil }},
		{"the last frame gone", func(s *impl.State) { s.Frames = s.Frames[:2] }},
		{"the last two frames gone", func(s *impl.State) { s.Frames = s.Frames[:1] }},
		{"a frame between gone", func(s *impl.State) { s.Frames = slices.Delete(s.Frames, 1, 2) }},
		{"the first frame behind the others", func(s *impl.State) { s.Frames = append(s.Frames[1:], s.Frames[0]) }},
		{"the last frame twice", func(s *impl.State) { s.Frames = append(s.Frames, copiedFrame(s.Frames[2])) }},
		{"a thousand frames", func(s *impl.State) { s.Frames = slices.Repeat(s.Frames, 333) }},
		{"31 arrays", func(s *impl.State) { s.Heap = heapOf(31) }},
		{"500 arrays", func(s *impl.State) { s.Heap = make([][]int64, 500) }},
		{"a first array of 51", func(s *impl.State) { s.Heap[0] = make([]int64, 51) }},
		{"a last array of 51", func(s *impl.State) { s.Heap[2] = make([]int64, 51) }},
		{"an array of 500", func(s *impl.State) { s.Heap[1] = make([]int64, 500) }},
		{"one number put out too many", func(s *impl.State) { s.Out = make([]int64, 2981) }},
		{"a number put out with all fuel there", func(s *impl.State) { s.Fuel, s.Out = 3000, nums(1) }},
		{"more numbers put out than there may be", func(s *impl.State) { s.Fuel, s.Out = 0, make([]int64, 3001) }},
		{"Done with Frames", func(s *impl.State) { s.Done = true }},
		{"Done with Frames and a Value", func(s *impl.State) { s.Done, s.Value = true, 5 }},
		{"Done with Frames and a Trap", func(s *impl.State) { s.Done, s.Trap = true, 11 }},
		{"Done with one frame", func(s *impl.State) { s.Done, s.Frames = true, s.Frames[2:] }},
		{"a Value and not Done", func(s *impl.State) { s.Value = 1 }},
		{"a Value below 0 and not Done", func(s *impl.State) { s.Value = -1 }},
		{"no Frames, a Value and not Done", func(s *impl.State) { s.Frames, s.Value = nil, 1 }},
		{"no Frames, a Trap and not Done", func(s *impl.State) { s.Frames, s.Trap = nil, 12 }},
		{"a Trap that is none, and not Done", func(s *impl.State) { s.Trap = 1 }},
	}
	for _, fuel := range nums(-1, -2, 3001, 3002, 1<<32, 1<<32+20, -1<<32, math.MaxInt64, math.MinInt64) {
		l = append(l, change{fmt.Sprint("Fuel ", fuel), func(s *impl.State) { s.Fuel, s.Out = fuel, nil }})
		l = append(l, change{fmt.Sprint("Done with Fuel ", fuel), func(s *impl.State) { s.Frames, s.Done, s.Fuel, s.Out = nil, true, fuel, nil }})
	}
	for trap := int64(11); trap <= 15; trap++ {
		l = append(l, change{"a Trap and not Done", func(s *impl.State) { s.Trap = trap }})
		for _, value := range nums(1, -1, trap, math.MinInt64) {
			l = append(l, change{"a Value beside a Trap", func(s *impl.State) { s.Frames, s.Done, s.Trap, s.Value = nil, true, trap, value }})
		}
	}
	for _, trap := range nums(1, 8, 9, 10, 16, 17, -1, -11, 1<<32+11, math.MaxInt64, math.MinInt64) {
		l = append(l, change{fmt.Sprint("Trap ", trap), func(s *impl.State) { s.Frames, s.Done, s.Trap = nil, true, trap }})
	}
	return l
}

// Each way by itself in which a State is not right.
func TestWrongStates(t *testing.T) {
	said := saidOf(t)
	for _, c := range append(wrongFrames(), wrongWholes()...) {
		p, s := threeDeep(t)
		c.do(&s)
		if rightSaid(p, heightsOf(said, p), s) {
			t.Fatalf("the test's own second way finds %s right", c.what)
		}
		wrongState(t, c.what, p, s)
	}
	p, _ := threeDeep(t)
	wrongState(t, "the zero State", p, impl.State{})
}

func TestRightStates(t *testing.T) {
	said := saidOf(t)
	changes := []change{
		{"as it is", func(s *impl.State) {}},
		{"Fuel 0", func(s *impl.State) { s.Fuel = 0 }},
		{"Fuel 1", func(s *impl.State) { s.Fuel = 1 }},
		{"all Fuel, and nothing put out", func(s *impl.State) { s.Fuel, s.Out = 3000, nil }},
		{"just as much put out as there may be", func(s *impl.State) { s.Out = make([]int64, 2980) }},
		{"as much put out as there may ever be", func(s *impl.State) { s.Fuel, s.Out = 0, make([]int64, 3000) }},
		{"no Heap", func(s *impl.State) { s.Heap = nil }},
		{"the fullest Heap", func(s *impl.State) { s.Heap = slices.Repeat([][]int64{make([]int64, 50)}, 30) }},
		{"without the first frame", func(s *impl.State) { s.Frames = s.Frames[1:] }},
		{"without the first two frames", func(s *impl.State) { s.Frames = s.Frames[2:] }},
		{"the last frame at its first place", func(s *impl.State) { s.Frames[2].Pc, s.Frames[2].Stack = 0, nil }},
		{"the last frame at its last place", func(s *impl.State) { s.Frames[2].Pc, s.Frames[2].Stack = 3, nums(1) }},
		{"the first frame at its other call", func(s *impl.State) {
			s.Frames = []impl.Frame{{Pc: 7, Locals: nums(1, 2)}, s.Frames[2]}
		}},
		{"Done", func(s *impl.State) { s.Frames, s.Done = nil, true }},
		{"Done with a Value", func(s *impl.State) { s.Frames, s.Done, s.Value = nil, true, math.MinInt64 }},
		{"Done with no Fuel", func(s *impl.State) { s.Frames, s.Done, s.Fuel = nil, true, 0 }},
		{"Done with all Fuel", func(s *impl.State) { *s = impl.State{Done: true, Fuel: 3000} }},
	}
	for trap := int64(11); trap <= 15; trap++ {
		changes = append(changes, change{fmt.Sprint("Trap ", trap), func(s *impl.State) { s.Frames, s.Done, s.Trap = nil, true, trap }})
	}
	for _, c := range changes {
		p, s := threeDeep(t)
		c.do(&s)
		rightState(t, c.what, p, s, true)
		if s.Done || s.Fuel == 0 {
			handedBack(t, c.what, p, s)
			continue
		}
		stepIs(t, c.what, p, s, stepSaid(said, p, s))
	}
}

// A State of a program that is not right is not right, whatever it is.
func TestStatesOfWrongPrograms(t *testing.T) {
	for _, c := range loneFaults(t) {
		for _, p := range []impl.Program{programOf(good(t), c.f), programOf(c.f, good(t))} {
			for f := range int64(2) {
				one := impl.Frame{Func: f, Locals: make([]int64, max(0, p.Funcs[f].Locals))}
				wrongState(t, "a program with "+c.what, p, impl.State{Frames: []impl.Frame{one}, Fuel: 9})
			}
			wrongState(t, "a State that is Done, of a program with "+c.what, p, impl.State{Done: true, Value: 4})
		}
	}
	wrongState(t, "no program", impl.Program{}, impl.State{Done: true})
	p, s := threeDeep(t)
	p.Funcs[1].Code[9].A = 1
	wrongState(t, "a program that is wrong where it is not reached", p, s)
}

// A place may be reached by a jump, while the call ahead of it is not: no frame but the last one stands there.
func TestCallThatIsNotReached(t *testing.T) {
	p := programOf(funcOf(t, 0, 0, "push 9; push 8; jump 4; call 1; add; ret"), funcOf(t, 0, 0, "push 2; ret"))
	first := impl.Frame{Pc: 4, Stack: nums(9)}
	last := impl.Frame{Func: 1}
	wrongState(t, "a frame behind a call that is not reached", p, impl.State{Frames: []impl.Frame{first, last}, Fuel: 5})
	first.Stack = nums(9, 8)
	rightState(t, "a last frame behind a call that is not reached", p, impl.State{Frames: []impl.Frame{first}, Fuel: 5}, true)
	p.Funcs[0].Code[2].A = 3
	p.Funcs[0].Code[4].Op = impl.OpOut
	rightState(t, "a frame behind that call, if it is reached", p, impl.State{Frames: []impl.Frame{first, last}, Fuel: 5}, true)
}

// Every place with every height of the stack, in the last frame and in one ahead of it.
func TestEveryPlaceAndHeight(t *testing.T) {
	said := saidOf(t)
	p, base := threeDeep(t)
	heights := heightsOf(said, p)
	rights := 0
	for k := range 3 {
		for f := range int64(3) {
			for pc := int64(-2); pc <= 13; pc++ {
				for height := range 10 {
					s := copied(base)
					s.Frames[k] = impl.Frame{Func: f, Pc: pc, Locals: make([]int64, p.Funcs[f].Locals), Stack: make([]int64, height)}
					want := rightSaid(p, heights, s)
					rightState(t, fmt.Sprint("frame ", k, " of ", f, " at ", pc, " with ", height), p, s, want)
					rights += int(yes(want))
				}
			}
		}
	}
	if rights != 6 {
		t.Errorf("%d of them are right, want 6: one in each frame ahead of the last one, and the four places of the last one", rights)
	}
}

func TestStateSame(t *testing.T) {
	changes := append(wrongFrames(), wrongWholes()...)
	changes = append(changes,
		change{"as it is", func(s *impl.State) {}},
		change{"another number in the Heap", func(s *impl.State) { s.Heap[0][1] = 3 }},
		change{"another number in the last array", func(s *impl.State) { s.Heap[2][0] = 8 }},
		change{"one array fewer", func(s *impl.State) { s.Heap = s.Heap[:2] }},
		change{"an empty array more", func(s *impl.State) { s.Heap = append(s.Heap, nil) }},
		change{"arrays that come apart otherwise", func(s *impl.State) { s.Heap = [][]int64{{1}, {2}, {7}} }},
		change{"no Heap", func(s *impl.State) { s.Heap = nil }},
		change{"another number put out", func(s *impl.State) { s.Out[1] = 1 }},
		change{"one number fewer put out", func(s *impl.State) { s.Out = s.Out[:1] }},
		change{"one number more put out", func(s *impl.State) { s.Out = append(s.Out, 0) }},
		change{"nothing put out", func(s *impl.State) { s.Out = nil }},
		change{"one fuel fewer", func(s *impl.State) { s.Fuel-- }},
		change{"another local", func(s *impl.State) { s.Frames[0].Locals[1]++ }},
		change{"another local of the last frame", func(s *impl.State) { s.Frames[2].Locals[0]++ }},
		change{"another number on the stack", func(s *impl.State) { s.Frames[1].Stack[0]++ }},
		change{"another number on the last stack", func(s *impl.State) { s.Frames[2].Stack[1]++ }},
		change{"a number from the locals on the stack", func(s *impl.State) { s.Frames[0].Locals, s.Frames[0].Stack = nums(4), nums(5, 9) }},
	)
	var states []impl.State
	for _, c := range changes {
		_, s := threeDeep(t)
		c.do(&s)
		states = append(states, s)
	}
	texts := make([]string, len(states))
	for k, s := range states {
		texts[k] = told(s)
	}
	for j, a := range states {
		for k, b := range states {
			if got := impl.StateSame(a, b); got != (texts[j] == texts[k]) {
				t.Errorf("StateSame of %q and %q: got %v", changes[j].what, changes[k].what, got)
			}
		}
		if !impl.StateSame(a, copied(a)) {
			t.Errorf("StateSame of %q and a copy of it: got false", changes[j].what)
		}
		if told(a) != texts[j] {
			t.Errorf("StateSame changed %q", changes[j].what)
		}
	}
	none := impl.State{Frames: []impl.Frame{{}}, Heap: [][]int64{nil}}
	empty := impl.State{Frames: []impl.Frame{{Locals: []int64{}, Stack: []int64{}}}, Heap: [][]int64{{}}, Out: []int64{}}
	if !impl.StateSame(none, empty) || !impl.StateSame(empty, none) || !impl.StateSame(impl.State{}, impl.State{Frames: []impl.Frame{}, Heap: [][]int64{}}) {
		t.Error("StateSame: an empty list and none are the same")
	}
}

// thrownState begins a thrown program, with some arrays and numbers put out already.
func thrownState(t *testing.T, d *dice, said []opSaid) (impl.Program, impl.State) {
	t.Helper()
	p := thrownRight(t, d, said)
	f := d.below(len(p.Funcs))
	args := make([]int64, p.Funcs[f].Args)
	for at := range args {
		args[at] = few(d)
	}
	s := impl.Begin(p, int64(f), args, int64(d.below(120)))
	for range d.below(31) {
		s.Heap = append(s.Heap, make([]int64, d.below(8)))
	}
	for range d.below(5) {
		s.Out = append(s.Out, few(d))
	}
	return p, s
}

// seenSteps counts what thrown programs did, so that none of it goes unlooked at.
type seenSteps struct {
	ops    map[int64]int
	traps  map[int64]int
	deep   int
	values int
	dry    int
}

func (seen *seenSteps) end(s impl.State) {
	switch {
	case !s.Done:
		seen.dry++
	case s.Trap != 0:
		seen.traps[s.Trap]++
	default:
		seen.values++
	}
}

// stepped goes on by steps alone, and holds each against the second way; each State that it comes by is right.
func stepped(t *testing.T, said map[int64]opSaid, p impl.Program, s impl.State, seen *seenSteps) []impl.State {
	t.Helper()
	heights := heightsOf(said, p)
	all := []impl.State{s}
	for !s.Done && s.Fuel > 0 {
		last := s.Frames[len(s.Frames)-1]
		seen.ops[p.Funcs[last.Func].Code[last.Pc].Op]++
		seen.deep = max(seen.deep, len(s.Frames))
		next := stepSaid(said, p, s)
		if got := impl.Step(p, s); !impl.StateSame(got, next) {
			t.Fatalf("Step of %s\n in %+v:\n got %s\nwant %s", told(s), p, told(got), told(next))
		}
		if !rightSaid(p, heights, next) || !impl.StateRight(p, next) {
			t.Fatalf("behind a step of %+v %s is not right", p, told(next))
		}
		s = next
		all = append(all, s)
	}
	seen.end(s)
	return all
}

// Promise 8, of one State: it runs as it steps, from each State on the way, and with any fuel first and the rest then.
func promiseEight(t *testing.T, p impl.Program, all []impl.State) {
	t.Helper()
	end := all[len(all)-1]
	runIs(t, "a thrown State", p, all[0], end)
	handedBack(t, "a thrown State at its end", p, end)
	for k := 0; k < len(all); k += 1 + len(all)/6 {
		if got := impl.Run(p, all[k]); !impl.StateSame(got, end) {
			t.Errorf("Run behind %d steps: got %s, want %s", k, told(got), told(end))
		}
	}
	fuel := all[0].Fuel
	for first := int64(0); first <= fuel; first += 1 + fuel/5 {
		less := all[0]
		less.Fuel = first
		half := impl.Run(p, less)
		if k := min(first, int64(len(all)-1)); half.Fuel != first-k || !impl.StateRight(p, half) {
			t.Errorf("Run with fuel %d first: got %s", first, told(half))
		}
		half.Fuel += fuel - first
		if got := impl.Run(p, half); !impl.StateSame(got, end) {
			t.Errorf("Run with fuel %d first, and the rest then: got %s, want %s", first, told(got), told(end))
		}
	}
}

// Promise 8.
func TestThrownRuns(t *testing.T) {
	said := saidOf(t)
	d := &dice{u: 6}
	seen := &seenSteps{ops: map[int64]int{}, traps: map[int64]int{}}
	for range 1500 {
		p, s := thrownState(t, d, opsSaid(t))
		promiseEight(t, p, stepped(t, said, p, s, seen))
	}
	for _, o := range opsSaid(t) {
		if seen.ops[o.op] < 100 {
			t.Errorf("%s was stepped only %d times", o.name, seen.ops[o.op])
		}
	}
	for trap := int64(impl.TrapZero); trap <= impl.TrapDeep; trap++ {
		if seen.traps[trap] < 10 {
			t.Errorf("only %d runs came to trap %d", seen.traps[trap], trap)
		}
	}
	if seen.deep < impl.MaxFrames || seen.values < 100 || seen.dry < 100 {
		t.Errorf("only %d frames, %d values and %d runs out of fuel", seen.deep, seen.values, seen.dry)
	}
}

// Promise 8, of programs that run long, by each way to part their fuel.
func TestLongRuns(t *testing.T) {
	said := saidOf(t)
	seen := &seenSteps{ops: map[int64]int{}, traps: map[int64]int{}}
	for _, p := range []impl.Program{
		programOf(funcOf(t, 1, 2, "load 0; jz 11; load 1; load 0; add; store 1; load 0; push 1; sub; store 0; jump 0; load 1; ret")),
		programOf(funcOf(t, 1, 1, "load 0; jz 7; load 0; push 1; sub; call 0; out; push 2; new; pop; load 0; ret")),
		programOf(funcOf(t, 1, 1, "push 3; new; push 1; load 0; set; push 1; push 1; get; out; load 0; call 1; out; jump 0"), funcOf(t, 1, 1, "load 0; neg; ret")),
	} {
		for _, n := range nums(0, 7, 300) {
			all := stepped(t, said, p, impl.Begin(p, 0, nums(n), 600), seen)
			promiseEight(t, p, all)
			for first := range int64(600) {
				less := all[0]
				less.Fuel = first
				half := impl.Run(p, less)
				half.Fuel += 600 - first
				if got := impl.Run(p, half); !impl.StateSame(got, all[len(all)-1]) {
					t.Fatalf("Run with fuel %d first, and the rest then: got %s", first, told(got))
				}
			}
		}
	}
}

// thrownChange lets one thing of a State be another one.
func thrownChange(d *dice, s *impl.State) {
	list := func(l []int64) []int64 {
		if len(l) > 0 && d.below(2) == 0 {
			return l[:len(l)-1]
		}
		return append(slices.Clone(l), 0)
	}
	switch d.below(6) {
	case 0:
		s.Fuel = nums(-1, 0, 1, 3000, 3001)[d.below(5)]
	case 1:
		s.Done = !s.Done
	case 2:
		s.Value, s.Trap = int64(d.below(2)), int64(9+d.below(8))*int64(d.below(2))
	case 3:
		s.Frames = s.Frames[d.below(len(s.Frames)+1):]
	default:
		if len(s.Frames) == 0 {
			return
		}
		f := &s.Frames[d.below(len(s.Frames))]
		switch d.below(4) {
		case 0:
			f.Func = int64(d.below(5)) - 1
		case 1:
			f.Pc += int64(d.below(5)) - 2
		case 2:
			f.Locals = list(f.Locals)
		case 3:
			f.Stack = list(f.Stack)
		}
	}
}

// States of thrown programs that are changed here and there are right just where the second way says so.
func TestThrownStates(t *testing.T) {
	said := saidOf(t)
	d := &dice{u: 7}
	rights, wrongs := 0, 0
	for range 3000 {
		p, s := thrownState(t, d, opsSaid(t))
		heights := heightsOf(said, p)
		s = impl.Run(p, s)
		for range 1 + d.below(2) {
			thrownChange(d, &s)
		}
		want := rightSaid(p, heights, s)
		rightState(t, "a thrown State", p, s, want)
		if !want {
			wrongs++
			handedBack(t, "a thrown State that is not right", p, s)
			continue
		}
		rights++
		if !s.Done && s.Fuel > 0 {
			stepIs(t, "a thrown State", p, s, stepSaid(said, p, s))
		}
	}
	if rights < 100 || wrongs < 100 {
		t.Errorf("only %d right States and %d others were thrown", rights, wrongs)
	}
}

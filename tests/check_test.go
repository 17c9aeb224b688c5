package tests

import (
	"fmt"
	"math"
	"slices"
	"strconv"
	"strings"
	"testing"

	"loop.example/g00219/impl"
)

// valRead reads a Val: - for none, r and the number of a register, m and that of a cell less Regs, # and a number.
func valRead(t *testing.T, word string) impl.Val {
	t.Helper()
	if word == "-" {
		return impl.Val{}
	}
	n, err := strconv.ParseInt(word[1:], 10, 64)
	if err != nil {
		t.Fatal(err)
	}
	switch word[0] {
	case 'r':
		return loc(n)
	case 'm':
		return loc(n + impl.Regs)
	}
	return con(n)
}

func valsRead(t *testing.T, text string) []impl.Val {
	t.Helper()
	var l []impl.Val
	for _, word := range strings.Fields(text) {
		l = append(l, valRead(t, word))
	}
	return l
}

// asmInsRead reads an op's name, > and its To, @ and its T (if it has them), and its L.
func asmInsRead(t *testing.T, text string) impl.AsmIns {
	t.Helper()
	word, rest, _ := strings.Cut(strings.TrimSpace(text), " ")
	word, at, _ := strings.Cut(word, "@")
	name, to, _ := strings.Cut(word, ">")
	i := asmIns(int64(slices.Index([]string{"nop", "move", "", "guard"}, name)), -1, 0, valsRead(t, rest)...)
	for _, o := range opsSaid(t) {
		if o.name == name {
			i.Op = o.op
		}
	}
	if i.Op < 0 {
		t.Fatalf("%q is no op", name)
	}
	if to != "" {
		i.To = valRead(t, to).N
	}
	if at != "" {
		i.T = whole(t, at)
	}
	return i
}

// regsOf reads code of registers, a line a place (or a ; between each two): its map, its moves, each a To, a = and a From, and its
// instruction, with | between each two.
func regsOf(t *testing.T, f int64, text string) impl.Asm {
	t.Helper()
	a := impl.Asm{Func: f}
	for _, line := range strings.Split(strings.ReplaceAll(text, "\n", ";"), ";") {
		parts := strings.Split(line, "|")
		if len(parts) != 3 {
			t.Fatalf("%q is no place", line)
		}
		i := asmInsRead(t, parts[2])
		for _, word := range strings.Fields(parts[1]) {
			to, from, _ := strings.Cut(word, "=")
			i.Pre = append(i.Pre, mov(valRead(t, to).N, valRead(t, from)))
		}
		a.Code = append(a.Code, i)
		a.Maps = append(a.Maps, valsRead(t, parts[0]))
	}
	return a
}

// checkWays is Check a second way. What a slot has is told by the Val with which it stands ahead of the place's moves: where a Val
// is asked for behind them, one goes back through them, and sees whether one comes to that.
type checkWays struct {
	said map[int64]opSaid
	p    impl.Program
	a    impl.Asm
	sets []int64
}

// newValue is the result's own value: no Val that may be is that.
var newValue = impl.Val{Kind: 9}

// ahead is where what stands at v behind moves stood ahead of them all.
func ahead(l []impl.Mov, v impl.Val) impl.Val {
	for _, m := range slices.Backward(l) {
		if v == loc(m.To) {
			v = m.From
		}
	}
	return v
}

// is: does the Val, ahead of all moves, have what a slot has? Nothing has what one has that stands nowhere.
func is(v impl.Val, has impl.Val) bool {
	return v == has && v.Kind != 0
}

// operandsSaid: are they, in order, those of what is taken?
func operandsSaid(i impl.AsmIns, taken []impl.Val) bool {
	for k, v := range i.L {
		if k >= len(taken) || !is(ahead(i.Pre, v), taken[k]) {
			return false
		}
	}
	return len(i.L) == len(taken)
}

func (w checkWays) fits(o opSaid, i impl.Ins, x impl.AsmIns, taken []impl.Val) bool {
	nopOrMove := x.Op == 0 || x.Op == 1
	_, number := resultSaid(i.Op, taken)
	fit := operandsSaid(x, taken)
	switch {
	case slices.Contains([]string{"push", "load", "store", "dup", "pop"}, o.name):
		return nopOrMove
	case number && nopOrMove:
		return true
	case o.name == "jz" && x.Op == 3:
		return fit
	case o.name == "jz" && x.Op == 0:
		return taken[0].Kind == 2 && taken[0].N != 0
	case o.name == "jz" && x.Op == impl.OpJump:
		return taken[0] == con(0) && x.T == i.A
	}
	return x.Op == i.Op && x.T == i.A && fit
}

// behind are what the slots have behind the program's instruction, and where what stands at a loc behind that of registers stood.
func (w checkWays) behind(i impl.Ins, x impl.AsmIns, has []impl.Val, takes int64, puts int64) ([]impl.Val, func(impl.Val) impl.Val) {
	result := newValue
	if n, known := resultSaid(i.Op, has[int64(len(has))-takes:]); known {
		result = con(n)
	}
	low := int64(len(has)) - takes
	slots := slices.Clone(has[:low])
	switch i.Op {
	case impl.OpPush:
		slots = append(slots, con(i.A))
	case impl.OpLoad:
		slots = append(slots, has[i.A])
	case impl.OpStore:
		slots[i.A] = has[low]
	case impl.OpDup:
		slots = append(slots, has[low], has[low])
	default:
		slots = append(slots, slices.Repeat(vals(result), int(puts))...)
	}
	return slots, func(v impl.Val) impl.Val {
		if x.To >= 0 && v == loc(x.To) {
			if x.Op != 1 {
				return result
			}
			v = x.L[0]
		}
		return ahead(x.Pre, v)
	}
}

func (w checkWays) place(at int64) int64 {
	has := w.a.Maps[at]
	for slot, v := range has {
		if v.Kind == 0 && w.sets[at]>>slot&1 == 1 {
			return impl.ErrNone
		}
	}
	i, x := w.p.Funcs[w.a.Func].Code[at], w.a.Code[at]
	takes, puts := stackOf(w.said, w.p, i)
	if !w.fits(w.said[i.Op], i, x, has[int64(len(has))-takes:]) {
		return impl.ErrFlow
	}
	slots, from := w.behind(i, x, has, takes, puts)
	for _, to := range wentOn(i, at) {
		for slot, v := range w.a.Maps[to] {
			if v.Kind != 0 && !is(from(v), slots[slot]) {
				return impl.ErrStack
			}
		}
	}
	return 0
}

// beginSaid: may the locals of a function of so many Args stand so at its beginning?
func beginSaid(args int64, l []impl.Val) bool {
	for k, v := range l {
		if v.Kind == 2 && (int64(k) < args || v.N != 0) || v.Kind == 1 && slices.Contains(l[:k], v) {
			return false
		}
	}
	return true
}

// checkSaid is Check of any code, of a right program.
func checkSaid(said map[int64]opSaid, p impl.Program, a impl.Asm) impl.CheckOut {
	if !asmSaid(p, a) {
		return impl.CheckOut{Code: impl.ErrForm}
	}
	if !beginSaid(p.Funcs[a.Func].Args, a.Maps[0]) {
		return impl.CheckOut{Code: impl.ErrFlow}
	}
	ways := liveWaysOf(said, p, a.Func)
	w := checkWays{said, p, a, ways.sets()}
	for at, height := range ways.heights {
		if height == -1 {
			continue
		}
		if code := w.place(int64(at)); code != 0 {
			return impl.CheckOut{At: int64(at), Code: code}
		}
	}
	return impl.CheckOut{}
}

// manyNumbers are as many numbers, no two alike, none of them small.
func manyNumbers(n int64, from int64) []int64 {
	var l []int64
	for k := range n {
		l = append(l, from+1000*k*k)
	}
	return l
}

// listIs holds a list that is answered against what is wanted; no answer shares memory with another one, nor with what was handed in.
func listIs(t *testing.T, what string, given []int64, want []int64, call func() []int64) {
	t.Helper()
	before := slices.Clone(given)
	got, again := call(), call()
	if !slices.Equal(got, want) {
		t.Errorf("%s: got %d, want %d", what, got, want)
	}
	for at := range got[:cap(got)] {
		got[:cap(got)][at] = -7
	}
	if !slices.Equal(again, want) || !slices.Equal(given, before) || !slices.Equal(call(), want) {
		t.Errorf("%s: an answer shares memory, or another one is answered later: %d", what, again)
	}
}

func entryIs(t *testing.T, what string, p impl.Program, a impl.Asm, args []int64, want []int64) {
	t.Helper()
	program, code := copyProgram(p), asmTold(a)
	listIs(t, fmt.Sprint("Entry of ", what, " with ", len(args), " args"), args, want, func() []int64 { return impl.Entry(p, a, args) })
	if !impl.ProgramSame(p, program) || asmTold(a) != code {
		t.Errorf("Entry of %s changed what it was handed", what)
	}
}

// rebuildIs holds Rebuild against what is wanted, in the same ways.
func rebuildIs(t *testing.T, what string, p impl.Program, a impl.Asm, at int64, locs []int64, want impl.Frame) {
	t.Helper()
	program, code, given := copyProgram(p), asmTold(a), slices.Clone(locs)
	state := func() impl.State { return impl.State{Frames: []impl.Frame{impl.Rebuild(p, a, at, locs)}} }
	wanted := impl.State{Frames: []impl.Frame{want}}
	got, again := state(), state()
	stateIs(t, fmt.Sprint("Rebuild of ", what, " at ", at), got, wanted)
	ownMemory(t, "Rebuild of "+what, got, again)
	stateIs(t, fmt.Sprint("Rebuild of ", what, " at ", at, ", asked again"), again, wanted)
	if !impl.ProgramSame(p, program) || asmTold(a) != code || !slices.Equal(locs, given) {
		t.Errorf("Rebuild of %s changed what it was handed", what)
	}
}

// entrySaid is Entry a second way: loc by loc, of code that is let in, and as many args as are asked for.
func entrySaid(a impl.Asm, args []int64) []int64 {
	var locs []int64
	for n := range int64(impl.MaxLocs) {
		local := slices.Index(a.Maps[0], loc(n))
		if local < 0 || local >= len(args) {
			locs = append(locs, 0)
			continue
		}
		locs = append(locs, args[local])
	}
	return locs
}

// frameOf is the frame that stands at a reached place of code that is let in.
func frameOf(p impl.Program, a impl.Asm, at int64, locs []int64) impl.Frame {
	f := impl.Frame{Func: a.Func, Pc: at}
	for slot, v := range a.Maps[at] {
		n := v.N
		if v.Kind == 1 {
			n = locs[v.N]
		}
		if int64(slot) < p.Funcs[a.Func].Locals {
			f.Locals = append(f.Locals, n)
			continue
		}
		f.Stack = append(f.Stack, n)
	}
	return f
}

// promiseFourteen, of code that is let in: each local that is live at the beginning has its arg there, or 0.
// It answers how many such locals there are.
func promiseFourteen(t *testing.T, what string, p impl.Program, a impl.Asm, args []int64) int {
	t.Helper()
	locs := impl.Entry(p, a, args)
	frame := impl.Rebuild(p, a, 0, locs)
	lives := 0
	for local := range p.Funcs[a.Func].Locals {
		if impl.Live(p, a.Func)[0]>>local&1 == 0 {
			continue
		}
		lives++
		want := int64(0)
		if local < int64(len(args)) {
			want = args[local]
		}
		v := a.Maps[0][local]
		if v.Kind == 1 && locs[v.N] != want || v.Kind == 2 && v.N != want || v.Kind == 0 {
			t.Errorf("%s: local %d stands at %+v of %d, and has not %d", what, local, v, locs, want)
		}
		if int64(len(frame.Locals)) != p.Funcs[a.Func].Locals || frame.Locals[local] != want {
			t.Errorf("%s: local %d has not %d in %+v", what, local, want, frame)
		}
	}
	return lives
}

// heldLetIn holds Entry and Rebuild of code that is let in.
func heldLetIn(t *testing.T, what string, p impl.Program, a impl.Asm) {
	t.Helper()
	n := p.Funcs[a.Func].Args
	for _, args := range [][]int64{manyNumbers(n, 7000001), slices.Repeat(nums(math.MinInt64), int(n)), slices.Repeat(nums(0), int(n))} {
		entryIs(t, what, p, a, args, entrySaid(a, args))
		promiseFourteen(t, what, p, a, args)
	}
	entryIs(t, what, p, a, manyNumbers(n+1, 5), nil)
	if n > 0 {
		entryIs(t, what, p, a, manyNumbers(n-1, 5), nil)
	}
	locs := manyNumbers(impl.MaxLocs, -3000000)
	for at, height := range impl.Heights(p, a.Func) {
		want := impl.Frame{}
		if height != -1 {
			want = frameOf(p, a, int64(at), locs)
		}
		rebuildIs(t, what, p, a, int64(at), locs, want)
	}
	rebuildIs(t, what, p, a, -1, locs, impl.Frame{})
	rebuildIs(t, what, p, a, int64(len(a.Code)), locs, impl.Frame{})
	rebuildIs(t, what, p, a, 0, locs[1:], impl.Frame{})
}

// heldOut: of code that is not let in there is neither Entry nor Rebuild, at no place.
func heldOut(t *testing.T, what string, p impl.Program, a impl.Asm) {
	t.Helper()
	for n := range int64(5) {
		entryIs(t, what, p, a, manyNumbers(n, 5), nil)
	}
	for _, at := range nums(-1, 0, 1, int64(len(a.Code))-1, int64(len(a.Code))) {
		rebuildIs(t, what, p, a, at, manyNumbers(impl.MaxLocs, 5), impl.Frame{})
	}
}

// checkIs holds Check against what is wanted, and Entry and Rebuild by that; the program and the code stay as they are.
func checkIs(t *testing.T, what string, p impl.Program, a impl.Asm, want impl.CheckOut) {
	t.Helper()
	program, code := copyProgram(p), asmTold(a)
	for range 2 {
		if got := impl.Check(p, a); got != want {
			t.Errorf("Check of %s: got %+v, want %+v\nof %+v\nas %+v", what, got, want, p, a)
		}
	}
	if !impl.ProgramSame(p, program) || asmTold(a) != code {
		t.Errorf("Check of %s changed what it was handed", what)
	}
	if want.Code == impl.OK {
		heldLetIn(t, what, p, a)
	} else {
		heldOut(t, what, p, a)
	}
}

func flaw(at int64, code int64) impl.CheckOut {
	return impl.CheckOut{At: at, Code: code}
}

// lockstep runs code that is let in beside the plain machine.
type lockstep struct {
	t    *testing.T
	what string
	said map[int64]opSaid
	p    impl.Program
	a    impl.Asm
	locs []int64
	left bool
}

// number is what a Val has, by the locs as they are.
func (l *lockstep) number(v impl.Val) int64 {
	if v.Kind == 1 {
		return l.locs[v.N]
	}
	return v.N
}

func (l *lockstep) numbers(from []impl.Val) []int64 {
	var n []int64
	for _, v := range from {
		n = append(n, l.number(v))
	}
	return n
}

// stands holds the frame for which registers stand at a place against that of the plain machine, where it is live.
func (l *lockstep) stands(f impl.Frame) {
	l.t.Helper()
	live := impl.Live(l.p, f.Func)[f.Pc]
	got := impl.Rebuild(l.p, l.a, f.Pc, l.locs)
	if got.Func != f.Func || got.Pc != f.Pc || len(got.Locals) != len(f.Locals) || len(got.Stack) != len(f.Stack) {
		l.t.Fatalf("%s: %+v stands for %+v", l.what, got, f)
	}
	for slot := range len(f.Locals) + len(f.Stack) {
		if live>>slot&1 == 1 && *slotAt(got, slot) != *slotAt(f, slot) {
			l.t.Fatalf("%s: slot %d, which is live, has another number in %+v than in %+v\nof %+v\nas %+v", l.what, slot, got, f, l.p, l.a)
		}
	}
}

// step does what registers do ahead of what they put, and holds what they take, and where they go on, against what the plain machine does.
func (l *lockstep) step(f impl.Frame) {
	l.t.Helper()
	i, x := l.p.Funcs[f.Func].Code[f.Pc], l.a.Code[f.Pc]
	takes, _ := stackOf(l.said, l.p, i)
	taken := f.Stack[int64(len(f.Stack))-takes:]
	for _, m := range x.Pre {
		l.locs[m.To] = l.number(m.From)
	}
	got := l.numbers(x.L)
	if x.Op == 1 {
		l.locs[x.To] = got[0]
		return
	}
	if len(x.L) > 0 && !slices.Equal(got, taken) {
		l.t.Fatalf("%s: at %d %d is taken, not %d\nof %+v\nas %+v", l.what, f.Pc, got, taken, l.p, l.a)
	}
	if x.Op == 3 {
		l.left = (got[0] == 0) == (x.T == 1)
	}
	if i.Op == impl.OpJz && (x.Op == 0 && taken[0] == 0 || x.Op == impl.OpJump && taken[0] != 0) {
		l.t.Fatalf("%s: at %d it goes the other way", l.what, f.Pc)
	}
}

// alongside runs code that is let in beside the plain machine, as long as it does not leave. It answers how many steps it did.
func alongside(t *testing.T, what string, said map[int64]opSaid, p impl.Program, a impl.Asm, args []int64, fuel int64) int {
	t.Helper()
	l := &lockstep{t: t, what: what, said: said, p: p, a: a, locs: impl.Entry(p, a, args)}
	s := impl.Begin(p, a.Func, args, fuel)
	steps := 0
	for !s.Done && s.Fuel > 0 && !l.left {
		f := copiedFrame(s.Frames[0])
		l.stands(f)
		l.step(f)
		steps++
		s = impl.Step(p, s)
		for len(s.Frames) > 1 && s.Fuel > 0 {
			s = impl.Step(p, s)
		}
		x := l.a.Code[f.Pc]
		if x.Op != 1 && x.To >= 0 && len(s.Frames) == 1 {
			stack := s.Frames[0].Stack
			l.locs[x.To] = stack[len(stack)-1]
		}
		if len(s.Frames) > 1 {
			break
		}
	}
	return steps
}

// checkCase is code of a function, the first one of its program, and what Check says of it.
type checkCase struct {
	what   string
	args   int64
	locals int64
	code   string
	regs   string
	want   impl.CheckOut
}

// heldCases holds each case by hand, and against the second way; the other function takes two and gives back the first one.
func heldCases(t *testing.T, l []checkCase) {
	t.Helper()
	said := saidOf(t)
	for _, c := range l {
		p := programOf(funcOf(t, c.args, c.locals, c.code), funcOf(t, 2, 2, "load 0; ret"))
		verifyIs(t, c.what, p, impl.VerifyOut{})
		a := regsOf(t, 0, c.regs)
		asmRightIs(t, c.what, p, a, c.want.Code != impl.ErrForm)
		checkIs(t, c.what, p, a, c.want)
		if got := checkSaid(said, p, a); got != c.want {
			t.Errorf("%s: the second way says %+v, want %+v", c.what, got, c.want)
		}
		if c.want.Code == impl.OK {
			for _, from := range nums(0, 1, 2, 5) {
				alongside(t, c.what, said, p, a, manyNumbers(c.args, from), 60)
			}
		}
	}
}

const sumCode = "load 0; jz 11; load 1; load 0; add; store 1; load 0; push 1; sub; store 0; jump 0; load 1; ret"

// sumRegs adds up in two registers.
const sumRegs = `r0 r1 | | nop
r0 r1 r0 | | jz@11 r0
r0 r1 | | nop
r0 r1 r1 | | nop
r0 r1 r1 r0 | | add>r1 r1 r0
r0 - r1 | | nop
r0 r1 | | nop
r0 r1 r0 | | nop
r0 r1 r0 #1 | | sub>r0 r0 #1
- r1 r0 | | nop
r0 r1 | | jump@0
- r1 | | nop
- - r1 | | ret r1`

// sumCase is sumRegs with something in the place of another thing, where that comes first.
func sumCase(what string, old string, by string, want impl.CheckOut) checkCase {
	return checkCase{what, 1, 2, sumCode, strings.Replace(sumRegs, old, by, 1), want}
}

// loopCases go back.
func loopCases() []checkCase {
	cells := strings.ReplaceAll(strings.ReplaceAll(sumRegs, "r0", "m15"), "r1", "m0")
	twoCode := "load 0; jz 6; load 1; out; load 0; jz 0; load 1; ret"
	return []checkCase{
		{"a loop in registers", 1, 2, sumCode, sumRegs, flaw(0, 0)},
		{"a loop in cells", 1, 2, sumCode, cells, flaw(0, 0)},
		{"a loop in a register and a cell", 1, 2, sumCode, strings.ReplaceAll(sumRegs, "r1", "m0"), flaw(0, 0)},
		sumCase("a loop with a guard that goes past", "jz@11 r0", "guard@1 r0", flaw(0, 0)),
		sumCase("a loop with a guard that goes to A", "jz@11 r0", "guard@2 r0", flaw(0, 0)),
		sumCase("a loop whose jz asks another loc", "jz@11 r0", "jz@11 r1", flaw(1, impl.ErrFlow)),
		sumCase("a loop whose guard asks another loc", "jz@11 r0", "guard@1 r1", flaw(1, impl.ErrFlow)),
		sumCase("a loop whose guard asks a number", "jz@11 r0", "guard@1 #1", flaw(1, impl.ErrFlow)),
		sumCase("a loop whose jz goes elsewhere", "jz@11 r0", "jz@10 r0", flaw(1, impl.ErrFlow)),
		sumCase("a loop whose jz does nothing", "jz@11 r0", "nop", flaw(1, impl.ErrFlow)),
		sumCase("a loop whose jz always goes", "jz@11 r0", "jump@11", flaw(1, impl.ErrFlow)),
		sumCase("a loop whose jump goes elsewhere", "jump@0", "jump@1", flaw(10, impl.ErrFlow)),
		sumCase("a loop whose jump does nothing", "jump@0", "nop", flaw(10, impl.ErrFlow)),
		sumCase("a loop whose jump is one by a number", "jump@0", "jz@0 #0", flaw(10, impl.ErrFlow)),
		sumCase("a loop whose operands are changed over", "add>r1 r1 r0", "add>r1 r0 r1", flaw(4, impl.ErrFlow)),
		sumCase("a loop with another op", "add>r1 r1 r0", "sub>r1 r1 r0", flaw(4, impl.ErrFlow)),
		sumCase("a loop that puts over what is asked for", "add>r1 r1 r0", "add>r0 r1 r0", flaw(4, impl.ErrStack)),
		sumCase("a loop that puts nowhere", "add>r1 r1 r0", "add r1 r0", flaw(4, impl.ErrStack)),
		sumCase("a loop that keeps what is written over", "r0 - r1 | | nop", "r0 r1 r1 | | nop", flaw(4, impl.ErrStack)),
		sumCase("a loop with a live none", "r0 r1 r1 | | nop", "- r1 r1 | | nop", flaw(3, impl.ErrNone)),
		sumCase("a loop that knows too much at its beginning", "r0 r1 | | nop", "r0 #0 | r1=#0 | nop", flaw(10, impl.ErrStack)),
		sumCase("a loop that does not say what it knows", "r0 r1 | | nop", "r0 #0 | | nop", flaw(0, impl.ErrStack)),
		sumCase("a loop that says it knows", "sub>r0 r0 #1", "sub>r0 r0 #2", flaw(8, impl.ErrFlow)),
		{"a loop ahead of which a number is put", 1, 2, "push 7; store 1; load 0; jz 9; load 0; push 1; sub; store 0; jump 2; load 1; ret",
			`r0 #0 | | nop
r0 #0 #7 | r1=#7 | nop
r0 r1 | | nop
r0 r1 r0 | | jz@9 r0
r0 r1 | | nop
r0 r1 r0 | | nop
r0 r1 r0 #1 | | sub>r0 r0 #1
- r1 r0 | | nop
r0 r1 | | jump@2
- r1 | | nop
- - r1 | | ret r1`, flaw(0, 0)},
		{"a loop in which a number stays", 1, 2, "push 7; store 1; load 0; jz 9; load 0; push 1; sub; store 0; jump 2; load 1; ret",
			`r0 - | | nop
r0 - #7 | | nop
r0 #7 | | nop
r0 #7 r0 | | jz@9 r0
r0 #7 | | nop
r0 #7 r0 | | nop
r0 #7 r0 #1 | | sub>r0 r0 #1
- #7 r0 | | nop
r0 #7 | | jump@2
- #7 | | nop
- - #7 | | ret #7`, flaw(0, 0)},
		{"a loop that turns two over by a third one, and back", 2, 2, twoCode,
			`r0 m3 | | nop
r0 m3 r0 | | jz@6 r0
r0 m3 | m9=m3 m3=r0 r0=m9 | nop
m3 r0 r0 | | out r0
m3 r0 | r2=m3 | nop
m3 r0 r2 | r1=r0 r0=m3 m3=r1 | jz@0 r2
- m3 | | nop
- - m3 | | ret m3`, flaw(0, 0)},
		{"a loop that turns two over without a third one", 2, 2, twoCode,
			`r0 m3 | | nop
r0 m3 r0 | | jz@6 r0
r0 m3 | m3=r0 r0=m3 | nop
m3 r0 r0 | | out r0
m3 r0 | | nop
m3 r0 m3 | r2=m3 m3=r0 r0=r2 | jz@0 r2
- m3 | | nop
- - m3 | | ret m3`, flaw(2, impl.ErrStack)},
		{"a jump to itself, of locals that stay nought", 0, 2, "jump 0", "#0 #0 | | jump@0", flaw(0, 0)},
		{"a jump to itself, of locals that stay where they are", 2, 2, "jump 0", "r0 r1 | r2=r0 r0=r2 | jump@0", flaw(0, 0)},
		{"a jump to itself that turns two over", 2, 2, "jump 0", "r0 r1 | r2=r0 r0=r1 r1=r2 | jump@0", flaw(0, impl.ErrStack)},
		{"a jump back with a local that is nought no more", 0, 2, "push 1; store 1; jump 0", "#0 #0 | | nop; #0 #0 #1 | | nop; #0 #1 | | jump@0", flaw(2, impl.ErrStack)},
		{"a jump back with a local that is nought again", 0, 2, "push 0; store 1; jump 0", "#0 #0 | | nop; #0 #0 #0 | | nop; #0 #0 | | jump@0", flaw(0, 0)},
		{"a jump back with a local that stands elsewhere, too", 2, 2, "jump 1; jump 0", "r0 - | | jump@1; r0 - | r1=r0 | jump@0", flaw(0, 0)},
		{"a jump back with a local that has gone", 2, 2, "jump 1; jump 0", "r0 - | r1=r0 | jump@1; r1 - | | jump@0", flaw(1, impl.ErrStack)},
		{"a jump back with a local that comes back", 2, 2, "jump 1; jump 0", "r0 - | r1=r0 | jump@1; r1 - | r0=r1 | jump@0", flaw(0, 0)},
	}
}

// numberCases know slots as numbers.
func numberCases() []checkCase {
	add := func(what string, third string, last string, want impl.CheckOut) checkCase {
		return checkCase{what, 0, 0, "push 2; push 3; add; ret", "| | nop; #2 | | nop; #2 #3 " + third + "; " + last, want}
	}
	two := func(what string, code string, third string, last string, want impl.CheckOut) checkCase {
		return checkCase{what, 0, 0, code + "; ret", "| | nop; " + third + "; " + last, want}
	}
	return []checkCase{
		add("a result told by nop", "| | nop", "#5 | | ret #5", flaw(0, 0)),
		add("a result told by nop, another one", "| | nop", "#6 | | ret #6", flaw(2, impl.ErrStack)),
		add("a result told by nop, which stands nowhere", "| | nop", "r0 | | ret r0", flaw(2, impl.ErrStack)),
		add("a result told by nop, and put ahead", "| r0=#5 | nop", "r0 | | ret r0", flaw(0, 0)),
		add("a result told by nop, and another one put ahead", "| r0=#5 r0=#6 | nop", "r0 | | ret r0", flaw(2, impl.ErrStack)),
		add("a result told by move", "| | move>r0 #5", "r0 | | ret r0", flaw(0, 0)),
		add("a result told by move, from what was put ahead", "| m3=#5 | move>r0 m3", "r0 | | ret r0", flaw(0, 0)),
		add("a result told by move, from where nothing is", "| | move>r0 m3", "r0 | | ret r0", flaw(2, impl.ErrStack)),
		add("a result told by move, another one", "| | move>r0 #6", "r0 | | ret r0", flaw(2, impl.ErrStack)),
		add("a result told by a move elsewhere", "| | move>r0 #5", "r1 | | ret r1", flaw(2, impl.ErrStack)),
		add("a result told by a move that does nothing for it", "| | move>r0 #6", "#5 | | ret #5", flaw(0, 0)),
		add("the same op of numbers", "| | add>r0 #2 #3", "r0 | | ret r0", flaw(0, 0)),
		add("the same op of numbers, told as a number", "| | add>r0 #2 #3", "#5 | | ret #5", flaw(0, 0)),
		add("the same op of numbers, put nowhere and told as a number", "| | add #2 #3", "#5 | | ret #5", flaw(0, 0)),
		add("the same op of numbers, put nowhere", "| | add #2 #3", "r0 | | ret r0", flaw(2, impl.ErrStack)),
		add("the same op of other numbers", "| | add>r0 #3 #2", "r0 | | ret r0", flaw(2, impl.ErrFlow)),
		add("another op of the numbers", "| | or>r0 #2 #3", "r0 | | ret r0", flaw(2, impl.ErrFlow)),
		add("another op that comes to the same", "| | neg>r0 #-5", "r0 | | ret r0", flaw(2, impl.ErrFlow)),
		add("a guard in place of an op", "| | guard@1 #2", "#5 | | ret #5", flaw(2, impl.ErrFlow)),
		add("a jump in place of an op", "| | jump@3", "#5 | | ret #5", flaw(2, impl.ErrFlow)),
		add("operands put ahead", "| r0=#2 r1=#3 | add>m0 r0 r1", "m0 | | ret m0", flaw(0, 0)),
		add("operands put ahead, one over the other", "| r0=#2 r0=#3 | add>m0 r0 r0", "m0 | | ret m0", flaw(2, impl.ErrFlow)),
		add("one operand put ahead", "| r0=#3 r1=r0 | add>r1 #2 r1", "r1 | | ret r1", flaw(0, 0)),
		add("an operand from where nothing is", "| | add>r0 #2 r0", "r0 | | ret r0", flaw(2, impl.ErrFlow)),
		two("a slot that has its own value", "push 2; push 3; add", "r0 | | nop; r0 #3 | | add>r0 r0 #3", "r0 | | ret r0", flaw(0, impl.ErrStack)),
		{"a slot that has its own value, of which the number was known", 0, 0, "push 2; push 3; add; ret",
			"| | move>r0 #2; r0 | | nop; r0 #3 | | nop; #5 | | ret #5", flaw(2, impl.ErrFlow)},
		{"a slot that has its own value, and one that has a number", 0, 0, "push 2; push 3; add; ret",
			"| | move>r0 #2; r0 | | nop; r0 #3 | | add>r0 r0 #3; r0 | | ret r0", flaw(0, 0)},
		{"a slot that has its own value, which the number is not", 0, 0, "push 2; push 3; add; ret",
			"| | move>r0 #2; r0 | | nop; r0 #3 | | add>r0 #2 #3; r0 | | ret r0", flaw(2, impl.ErrFlow)},
		two("a quotient", "push 7; push 2; div", "#7 | | nop; #7 #2 | | nop", "#3 | | ret #3", flaw(0, 0)),
		two("a quotient with a trap by nop", "push 7; push 0; div", "#7 | | nop; #7 #0 | | nop", "#0 | | ret #0", flaw(2, impl.ErrFlow)),
		two("a quotient with a trap by move", "push 7; push 0; div", "#7 | | nop; #7 #0 | | move>r0 #0", "r0 | | ret r0", flaw(2, impl.ErrFlow)),
		two("a quotient with a trap by the same op", "push 7; push 0; div", "#7 | | nop; #7 #0 | | div>r0 #7 #0", "r0 | | ret r0", flaw(0, 0)),
		two("a quotient with a trap, told as a number", "push 7; push 0; div", "#7 | | nop; #7 #0 | | div>r0 #7 #0", "#0 | | ret #0", flaw(2, impl.ErrStack)),
		two("what is left, with a trap by nop", "push 7; push 0; rem", "#7 | | nop; #7 #0 | | nop", "#0 | | ret #0", flaw(2, impl.ErrFlow)),
		two("what is left, with a trap by the same op", "push 7; push 0; rem", "#7 | | nop; #7 #0 | | rem>r0 #7 #0", "r0 | | ret r0", flaw(0, 0)),
		two("the least number over -1", "push -9223372036854775808; push -1; div", "#-9223372036854775808 | | nop; #-9223372036854775808 #-1 | | nop",
			"#-9223372036854775808 | | ret #-9223372036854775808", flaw(0, 0)),
		two("an op of one", "push 300; byte", "#300 | | nop", "#44 | | ret #44", flaw(0, 0)),
		two("an op of one, another number", "push 300; byte", "#300 | | nop", "#300 | | ret #300", flaw(1, impl.ErrStack)),
		two("an op of the heap of a number by nop", "push 3; new", "#3 | | nop", "#1 | | ret #1", flaw(1, impl.ErrFlow)),
		two("an op of the heap of a number, told as one", "push 3; new", "#3 | | new>r0 #3", "#1 | | ret #1", flaw(1, impl.ErrStack)),
		two("an op of the heap of a number", "push 3; new", "#3 | | new>r0 #3", "r0 | | ret r0", flaw(0, 0)),
		two("a call of numbers by nop", "push 3; push 4; call 1", "#3 | | nop; #3 #4 | | nop", "#3 | | ret #3", flaw(2, impl.ErrFlow)),
		two("a call of numbers", "push 3; push 4; call 1", "#3 | | nop; #3 #4 | | call>r0@1 #3 #4", "r0 | | ret r0", flaw(0, 0)),
		two("a dup of a number", "push 4; dup; mul", "#4 | | nop; #4 #4 | | nop", "#16 | | ret #16", flaw(0, 0)),
		two("a dup of a number, one of them put", "push 4; dup; mul", "#4 | | move>r0 #4; r0 #4 | | mul>r1 r0 #4", "r1 | | ret r1", flaw(0, 0)),
		two("a dup of a number, another one", "push 4; dup; mul", "#4 | | nop; #4 #5 | | nop", "#20 | | ret #20", flaw(1, impl.ErrStack)),
		{"a number that is stored and loaded", 0, 1, "push 4; store 0; load 0; ret", "#0 | | nop; - #4 | | nop; #4 | | nop; - #4 | | ret #4", flaw(0, 0)},
		{"a number that is stored, and still nought", 0, 1, "push 4; store 0; load 0; ret", "#0 | | nop; #0 #4 | | nop; #0 | | nop; - #0 | | ret #0", flaw(1, impl.ErrStack)},
		{"a number that is stored, and is elsewhere", 0, 1, "push 4; store 0; load 0; ret", "r0 | | nop; r0 #4 | | nop; r0 | | nop; - r0 | | ret r0", flaw(1, impl.ErrStack)},
		{"a number that is stored where it is said to be", 0, 1, "push 4; store 0; load 0; ret", "r0 | | nop; r0 #4 | | move>r0 #4; r0 | | nop; - r0 | | ret r0", flaw(0, 0)},
		{"numbers that are popped", 0, 0, "push 4; push 5; pop; ret", "| | nop; #4 | | nop; #4 #5 | | nop; #4 | | ret #4", flaw(0, 0)},
		{"another number that is pushed", 0, 0, "push 5; ret", "| | nop; #6 | | ret #6", flaw(0, impl.ErrStack)},
		{"another number that is given back", 0, 0, "push 5; ret", "| | nop; #5 | | ret #6", flaw(1, impl.ErrFlow)},
		{"a number that is given back from a loc", 0, 0, "push 5; ret", "| | nop; #5 | r21=#5 | ret m15", flaw(0, 0)},
	}
}

// sureCase jumps by a number that is known.
func sureCase(what string, n string, jump string, want impl.CheckOut) checkCase {
	return checkCase{what, 0, 0, "push " + n + "; jz 3; jump 3; push 8; ret",
		"| | nop; #" + n + " | | " + jump + "; | | jump@3; | | nop; #8 | | ret #8", want}
}

// sureCases have an OpJz of a number that is known.
func sureCases() []checkCase {
	ways := func(what string, n string, jump string, next string, past string, want impl.CheckOut) checkCase {
		regs := "r0 | | nop; r0 #" + n + " | | " + jump + "; N | | nop; - N | | ret N; P | | nop; - P | | ret P"
		return checkCase{what, 1, 1, "push " + n + "; jz 4; load 0; ret; load 0; ret", strings.NewReplacer("N", next, "P", past).Replace(regs), want}
	}
	return []checkCase{
		sureCase("a jz of what is not nought by nop", "1", "nop", flaw(0, 0)),
		sureCase("a jz of what is below nought by nop", "-1", "nop", flaw(0, 0)),
		sureCase("a jz of what is not nought in its lowest bits by nop", "4294967296", "nop", flaw(0, 0)),
		sureCase("a jz of nought by nop", "0", "nop", flaw(1, impl.ErrFlow)),
		sureCase("a jz of nought by a jump", "0", "jump@3", flaw(0, 0)),
		sureCase("a jz of nought by a jump elsewhere", "0", "jump@2", flaw(1, impl.ErrFlow)),
		sureCase("a jz of what is not nought by a jump", "1", "jump@3", flaw(1, impl.ErrFlow)),
		sureCase("a jz of what is not nought by a jump to the next place", "1", "jump@2", flaw(1, impl.ErrFlow)),
		sureCase("a jz of what is not nought by jz", "1", "jz@3 #1", flaw(0, 0)),
		sureCase("a jz of nought by jz", "0", "jz@3 #0", flaw(0, 0)),
		sureCase("a jz of a number by jz of another one", "1", "jz@3 #2", flaw(1, impl.ErrFlow)),
		sureCase("a jz of a number by jz elsewhere", "1", "jz@2 #1", flaw(1, impl.ErrFlow)),
		sureCase("a jz of a number by a guard that goes past", "1", "guard@1 #1", flaw(0, 0)),
		sureCase("a jz of a number by a guard that goes to A", "1", "guard@2 #1", flaw(0, 0)),
		sureCase("a jz of nought by a guard that goes past", "0", "guard@1 #0", flaw(0, 0)),
		sureCase("a jz of a number by a guard of another one", "1", "guard@1 #0", flaw(1, impl.ErrFlow)),
		sureCase("a jz of a number by a move", "1", "move>r0 #1", flaw(1, impl.ErrFlow)),
		sureCase("a jz of nought by a move", "0", "move>r0 #0", flaw(1, impl.ErrFlow)),
		sureCase("a jz of a number by an out", "0", "out #0", flaw(1, impl.ErrFlow)),
		{"a jz of what is known no more by nop", 0, 0, "push 5; jz 3; jump 3; push 8; ret", "| | move>r0 #5; r0 | | nop; | | jump@3; | | nop; #8 | | ret #8", flaw(1, impl.ErrFlow)},
		{"a jz of what is known no more by a jump", 0, 0, "push 0; jz 3; jump 3; push 8; ret", "| | move>r0 #0; r0 | | jump@3; | | jump@3; | | nop; #8 | | ret #8", flaw(1, impl.ErrFlow)},
		{"a jz of a number that was put ahead", 0, 0, "push 5; jz 3; jump 3; push 8; ret", "| | nop; #5 | r4=#5 | jz@3 r4; | | jump@3; | | nop; #8 | | ret #8", flaw(0, 0)},
		ways("a way that is never gone, by nop", "1", "nop", "r0", "m5", flaw(1, impl.ErrStack)),
		ways("a way that is never gone, by a jump", "0", "jump@4", "m5", "r0", flaw(1, impl.ErrStack)),
		ways("ways that are both right, by nop", "1", "nop", "r0", "r0", flaw(0, 0)),
		ways("ways that are both right, by a jump", "0", "jump@4", "r0", "r0", flaw(0, 0)),
		ways("a way that a guard does not go, the next one", "1", "guard@2 #1", "m5", "r0", flaw(1, impl.ErrStack)),
		ways("a way that a guard does not go, A", "1", "guard@1 #1", "r0", "m5", flaw(1, impl.ErrStack)),
		ways("a way of a jz that is wrong, the next one", "1", "jz@4 #1", "m5", "r0", flaw(1, impl.ErrStack)),
		ways("a way of a jz that is wrong, A", "1", "jz@4 #1", "r0", "m5", flaw(1, impl.ErrStack)),
		ways("another number on a way", "1", "nop", "#7", "r0", flaw(1, impl.ErrStack)),
	}
}

// moveCases have moves ahead of an instruction, and locs that hold the values of several slots.
func moveCases() []checkCase {
	sub := func(what string, third string, want impl.CheckOut) checkCase {
		return checkCase{what, 2, 2, "load 0; load 1; sub; ret", "r0 r1 | | nop; r0 r1 r0 | | nop; - - r0 r1 " + third + "; - - r0 | | ret r0", want}
	}
	many := func(what string, fourth string, want impl.CheckOut) checkCase {
		return checkCase{what, 1, 1, "load 0; dup; load 0; add; add; ret", "r0 | | nop; r0 r0 | | nop; r0 r0 r0 | | nop; " + fourth + "; - r0 | | ret r0", want}
	}
	return []checkCase{
		sub("no move", "| | sub>r0 r0 r1", flaw(0, 0)),
		sub("a move of each", "| m0=r0 m1=r1 | sub>r0 m0 m1", flaw(0, 0)),
		sub("a move of a move", "| r2=r1 m3=r2 | sub>r0 r0 m3", flaw(0, 0)),
		sub("a move of a move that comes behind it", "| m3=r2 r2=r1 | sub>r0 r0 m3", flaw(2, impl.ErrFlow)),
		sub("two that are turned over by a third one", "| r5=r0 r0=r1 r1=r5 | sub>r0 r1 r0", flaw(0, 0)),
		sub("two that are turned over, and taken as they stood", "| r5=r0 r0=r1 r1=r5 | sub>r0 r0 r1", flaw(2, impl.ErrFlow)),
		sub("two that are turned over without a third one", "| r0=r1 r1=r0 | sub>r0 r1 r0", flaw(2, impl.ErrFlow)),
		sub("a move of a loc to itself", "| r0=r0 r1=r1 | sub>r0 r0 r1", flaw(0, 0)),
		sub("a move over, and back", "| m9=r0 r0=#1 r0=m9 | sub>r0 r0 r1", flaw(0, 0)),
		sub("a number over an operand", "| r0=#1 | sub>r0 r0 r1", flaw(2, impl.ErrFlow)),
		sub("a loc of which nothing is known over an operand", "| r0=m9 | sub>r0 r0 r1", flaw(2, impl.ErrFlow)),
		sub("one operand over the other", "| r0=r1 | sub>r0 r0 r1", flaw(2, impl.ErrFlow)),
		sub("one operand for both", "| | sub>r0 r0 r0", flaw(2, impl.ErrFlow)),
		sub("a number as an operand", "| | sub>r0 r0 #0", flaw(2, impl.ErrFlow)),
		sub("moves by all locs", "| r2=r1 r3=r2 r4=r3 r5=r4 m0=r5 m1=m0 m2=m1 m3=m2 m4=m3 m5=m4 m6=m5 m7=m6 m8=m7 m9=m8 m14=m9 m15=m14 | sub>r0 r0 m15", flaw(0, 0)),
		sub("a loc that was asked ahead of the op that puts there", "| | sub>r1 r0 r1", flaw(2, impl.ErrStack)),
		many("a loc of several, of which one is taken", "- r0 r0 r0 | | add>r1 r0 r0; - r0 r1 | | add>r0 r0 r1", flaw(0, 0)),
		many("a loc of several that is moved, all of them", "- r0 r0 r0 | m1=r0 r0=#7 | add>m2 m1 m1; - m1 m2 | | add>r0 m1 m2", flaw(0, 0)),
		many("a loc of several that is moved, and stays", "- r0 r0 r0 | m1=r0 | add>m2 r0 m1; - r0 m2 | | add>r0 r0 m2", flaw(0, 0)),
		many("a loc of several over which the result is put", "- r0 r0 r0 | | add>r0 r0 r0; - r0 r0 | | add>r0 r0 r0", flaw(3, impl.ErrStack)),
		many("a loc of several over which a number is moved", "- r0 r0 r0 | m1=r0 r0=#7 | add>m2 m1 m1; - r0 m2 | | add>r0 r0 m2", flaw(3, impl.ErrStack)),
		{"a load that is moved, and one that stays", 1, 1, "load 0; load 0; add; ret", "r0 | | move>m0 r0; r0 m0 | | nop; - m0 r0 | | add>r0 m0 r0; - r0 | | ret r0", flaw(0, 0)},
		{"a load that is moved from elsewhere", 1, 1, "load 0; ret", "r0 | | move>m0 r1; - m0 | | ret m0", flaw(0, impl.ErrStack)},
		{"a load that is moved from where it was put ahead", 1, 1, "load 0; ret", "r0 | r1=r0 r0=#3 | move>m0 r1; - m0 | | ret m0", flaw(0, 0)},
		{"a move over what is asked for", 2, 2, "load 0; load 1; add; ret", "r0 r1 | | move>r1 r0; - r1 r1 | | nop; - - r1 r1 | | add>r0 r1 r1; - - r0 | | ret r0", flaw(0, impl.ErrStack)},
		{"a store that stays where it is", 1, 2, "load 0; neg; store 1; load 1; ret", "r0 r1 | | nop; r0 - r0 | | neg>r2 r0; r0 - r2 | | nop; r0 r2 | | nop; - - r2 | | ret r2", flaw(0, 0)},
		{"a store of one local to another one", 2, 2, "load 0; store 1; load 1; ret", "r0 r1 | | nop; r0 r1 r0 | | nop; r0 r0 | | nop; - - r0 | | ret r0", flaw(0, 0)},
		{"a store of one local to another one, which stays", 2, 2, "load 0; store 1; load 1; ret", "r0 r1 | | nop; r0 r1 r0 | | nop; r0 r1 | | nop; - - r1 | | ret r1", flaw(1, impl.ErrStack)},
		{"a load ahead of a store to its local", 1, 1, "load 0; push 3; store 0; load 0; sub; ret", "r0 | | nop; r0 r0 | | nop; r0 r0 #3 | | nop; #3 r0 | | nop; - r0 #3 | | sub>r0 r0 #3; - r0 | | ret r0", flaw(0, 0)},
		{"a load ahead of a store to its local, over it", 1, 1, "load 0; push 3; store 0; load 0; sub; ret", "r0 | | nop; r0 r0 | | nop; - r0 #3 | | move>r0 #3; r0 r0 | | nop; - r0 r0 | | sub>r0 r0 r0; - r0 | | ret r0", flaw(2, impl.ErrStack)},
		{"a store by a guard, whose number is that of a store", 0, 2, "push 4; store 1; load 1; ret", "#0 #0 | | nop; #0 #0 #4 | | guard@1 #4; #0 #4 | | nop; - - #4 | | ret #4", flaw(1, impl.ErrFlow)},
		{"a pop by an out", 1, 1, "load 0; pop; load 0; ret", "r0 | | nop; r0 r0 | | out r0; r0 | | nop; - r0 | | ret r0", flaw(1, impl.ErrFlow)},
		{"a pop by a move", 1, 1, "load 0; pop; load 0; ret", "r0 | | nop; r0 r0 | | move>r1 r0; r1 | | nop; - r1 | | ret r1", flaw(0, 0)},
	}
}

// noneCases have slots that stand nowhere, and results that are put nowhere.
func noneCases() []checkCase {
	put := func(what string, second string, third string, want impl.CheckOut) checkCase {
		return checkCase{what, 1, 1, "load 0; neg; push 1; ret", "r0 | | nop; - r0 | | " + second + "; " + third + " | | nop; - - #1 | | ret #1", want}
	}
	load := func(what string, second string, want impl.CheckOut) checkCase {
		return checkCase{what, 1, 1, "load 0; push 1; ret", "r0 | | nop; " + second + " | | nop; - - #1 | | ret #1", want}
	}
	return []checkCase{
		put("a To of -1 of what nobody asks for", "neg r0", "- -", flaw(0, 0)),
		put("a To of -1 of what is said to stand somewhere", "neg r0", "- r0", flaw(1, impl.ErrStack)),
		put("a To of what nobody asks for, which is said to stand there", "neg>r0 r0", "- r0", flaw(0, 0)),
		put("a To of what nobody asks for, which is said to stand elsewhere", "neg>r1 r0", "- r0", flaw(1, impl.ErrStack)),
		put("a To of what nobody asks for, which is said to be a number", "neg>r1 r0", "- #0", flaw(1, impl.ErrStack)),
		put("a local that stays where it is", "neg>r1 r0", "r0 r1", flaw(1, impl.ErrStack)),
		{"a To of -1 of what is asked for", 1, 1, "load 0; neg; ret", "r0 | | nop; - r0 | | neg r0; - - | | ret r0", flaw(2, impl.ErrNone)},
		{"a To of -1 of a call", 1, 1, "load 0; load 0; call 1; push 1; ret", "r0 | | nop; r0 r0 | | nop; - r0 r0 | | call@1 r0 r0; - - | | nop; - - #1 | | ret #1", flaw(0, 0)},
		{"a To of -1 of a call, which is said to stand somewhere", 1, 1, "load 0; load 0; call 1; push 1; ret", "r0 | | nop; r0 r0 | | nop; - r0 r0 | | call@1 r0 r0; - r0 | | nop; - - #1 | | ret #1", flaw(2, impl.ErrStack)},
		load("a slot that nobody asks for, as none", "- -", flaw(0, 0)),
		load("a slot that nobody asks for, where it stands", "r0 r0", flaw(0, 0)),
		load("a slot that nobody asks for, where it does not stand", "- m3", flaw(0, impl.ErrStack)),
		load("a slot that nobody asks for, as a number", "- #0", flaw(0, impl.ErrStack)),
		load("a local that nobody asks for, where it does not stand", "m3 r0", flaw(0, impl.ErrStack)),
		load("a local that nobody asks for, as a number", "#0 r0", flaw(0, impl.ErrStack)),
		{"a local that is asked for, as none", 1, 1, "load 0; ret", "- | | nop; - r0 | | ret r0", flaw(0, impl.ErrNone)},
		{"a slot that is asked for, as none", 1, 1, "load 0; ret", "r0 | | nop; r0 - | | ret r0", flaw(1, impl.ErrNone)},
		{"a slot that is asked for later, as none", 1, 1, "load 0; push 1; add; ret", "r0 | | nop; - - | | nop; - r0 #1 | | add>r0 r0 #1; - r0 | | ret r0", flaw(1, impl.ErrNone)},
		{"a local that is asked for on one way, as none", 2, 2, "load 0; jz 4; load 1; ret; push 1; ret", "r0 - | | nop; - r1 r0 | | jz@4 r0; - r1 | | nop; - - r1 | | ret r1; - - | | nop; - - #1 | | ret #1", flaw(0, impl.ErrNone)},
		{"a local that is asked for on the other way, as none", 2, 2, "load 0; jz 4; push 1; ret; load 1; ret", "r0 r1 | | nop; - - r0 | | jz@4 r0; - - | | nop; - - #1 | | ret #1; - r1 | | nop; - - r1 | | ret r1", flaw(1, impl.ErrNone)},
		{"a local that is none, and comes back", 2, 2, "load 0; out; load 0; ret", "r0 - | | nop; r0 - r0 | | out r0; r0 r1 | | nop; - - r0 | | ret r0", flaw(1, impl.ErrStack)},
		{"places that are not reached", 0, 1, "jump 3; pop; jump 1; push 1; ret; ret", "- | | jump@3; | | nop; | | nop; - | | nop; - #1 | | ret #1; | | nop", flaw(0, 0)},
		{"a place that is not reached, which has what its place asks for", 0, 1, "jump 3; pop; jump 1; push 1; ret; ret", "- | | jump@3; | | nop; | | jump@1; - | | nop; - #1 | | ret #1; | | nop", flaw(0, impl.ErrForm)},
		{"a place that is not reached, with a map", 0, 1, "jump 3; pop; jump 1; push 1; ret; ret", "- | | jump@3; | | nop; - | | nop; - | | nop; - #1 | | ret #1; | | nop", flaw(0, impl.ErrForm)},
		{"a fault behind places that are not reached", 0, 1, "jump 3; pop; jump 1; push 1; ret; ret", "- | | jump@3; | | nop; | | nop; - | | nop; - #1 | | ret #2; | | nop", flaw(4, impl.ErrFlow)},
	}
}

func TestCheckByHand(t *testing.T) {
	for _, l := range [][]checkCase{loopCases(), numberCases(), sureCases(), moveCases(), noneCases()} {
		heldCases(t, l)
	}
}

// How locals stand at the place 0, of functions of 0, 1 and 2 Args, for which nobody asks.
func TestCheckOfBeginnings(t *testing.T) {
	for _, c := range []struct {
		begin string
		args  int64
		right bool
	}{
		{"r0 r1", 0, true}, {"r0 r1", 1, true}, {"r0 r1", 2, true}, {"r0 m0", 2, true}, {"m15 r5", 2, true}, {"- -", 0, true}, {"- -", 2, true}, {"r3 -", 2, true},
		{"#0 #0", 0, true}, {"#0 #0", 1, false}, {"#0 #0", 2, false}, {"r0 #0", 1, true}, {"r0 #0", 2, false}, {"- #0", 1, true}, {"- #0", 2, false}, {"#0 r0", 0, true}, {"#0 r0", 1, false}, {"#0 r0", 2, false},
		{"#1 #0", 0, false}, {"#0 #1", 0, false}, {"#0 #-1", 0, false}, {"r0 #1", 0, false}, {"r0 #1", 1, false}, {"r0 #1", 2, false}, {"#5 r0", 1, false}, {"#0 #4294967296", 0, false}, {"- #-9223372036854775808", 0, false},
		{"r0 r0", 0, false}, {"r0 r0", 1, false}, {"r0 r0", 2, false}, {"m15 m15", 0, false}, {"m0 m0", 2, false}, {"r0 m0", 0, true},
	} {
		what := fmt.Sprint("locals at ", c.begin, " of which ", c.args, " are Args")
		p := programOf(funcOf(t, c.args, 2, "push 1; ret"))
		a := regsOf(t, 0, c.begin+" | | nop; - - #1 | | ret #1")
		want := flaw(0, 0)
		if !c.right {
			want = flaw(0, impl.ErrFlow)
		}
		checkIs(t, what, p, a, want)
		// It is told ahead of all that is told of places.
		a.Code[1].L[0] = con(2)
		if c.right {
			want = flaw(1, impl.ErrFlow)
		}
		checkIs(t, what+", with a fault behind", p, a, want)
		// And where somebody asks for them.
		p = programOf(funcOf(t, c.args, 2, "load 0; load 1; add; ret"))
		a = regsOf(t, 0, c.begin+" | | nop; - - - | | nop; - - - - | | nop; - - - | | ret r0")
		want = flaw(0, impl.ErrFlow)
		if c.right {
			want = flaw(1, impl.ErrNone)
			if strings.Contains(c.begin, "-") {
				want = flaw(0, impl.ErrNone)
			}
		}
		checkIs(t, what+", for which somebody asks", p, a, want)
	}
}

// Each two of eight locals in one loc at the place 0, and each local a number there.
func TestCheckOfEachLocal(t *testing.T) {
	for args := range int64(5) {
		p := programOf(funcOf(t, args, 8, "push 1; ret"))
		right := regsOf(t, 0, "r5 r4 r3 r2 m0 m15 m1 m2 | | nop; - - - - - - - - #1 | | ret #1")
		checkIs(t, "eight locals", p, right, flaw(0, 0))
		for k := range int64(8) {
			for j := range k {
				a := copyAsm(right)
				a.Maps[0][k] = a.Maps[0][j]
				checkIs(t, fmt.Sprint("locals ", j, " and ", k, " in one loc"), p, a, flaw(0, impl.ErrFlow))
				a.Maps[0][k], a.Maps[0][j] = impl.Val{}, impl.Val{}
				checkIs(t, fmt.Sprint("locals ", j, " and ", k, " nowhere"), p, a, flaw(0, 0))
			}
			for _, n := range nums(0, 1, -1, math.MinInt64) {
				a := copyAsm(right)
				a.Maps[0][k] = con(n)
				want := flaw(0, impl.ErrFlow)
				if k >= args && n == 0 {
					want = flaw(0, 0)
				}
				checkIs(t, fmt.Sprint("local ", k, " as the number ", n, " where ", args, " are Args"), p, a, want)
			}
		}
	}
}

// opAlone is a function of three locals, which are put onto the stack, and an op, behind which nobody asks for anything; and code of it.
func opAlone(t *testing.T, o opSaid) (impl.Program, impl.Asm) {
	t.Helper()
	p := programOf(funcOf(t, 3, 3, "load 0; load 1; load 2; "+o.name+" 0; jump 4"), funcOf(t, 2, 2, "push 1; ret"), funcOf(t, 2, 2, "push 1; ret"))
	i := &p.Funcs[0].Code[3]
	takes := o.takes
	switch o.arg {
	case "place":
		i.A = 4
	case "func":
		i.A, takes = 1, 2
	}
	a := regsOf(t, 0, "r0 r1 r2 | | nop; r0 r1 r2 r0 | | nop; r0 r1 r2 r0 r1 | | nop; r0 r1 r2 r0 r1 r2 | | nop; | | nop")
	a.Code[3] = asmIns(o.op, -1, i.A, valsRead(t, "r0 r1 r2")[3-takes:]...)
	if o.name == "ret" {
		return p, a
	}
	a.Maps[4] = append(slices.Clone(a.Maps[0]), a.Maps[0][:3-takes]...)
	if o.puts > 0 {
		a.Code[3].To = 6
		a.Maps[4] = append(a.Maps[4], loc(6))
	}
	a.Code[4] = asmIns(impl.OpJump, -1, 4)
	return p, a
}

// Each op that may stand in code of registers: its operands, its T, its To, and all others in its place.
func TestCheckOfEachOp(t *testing.T) {
	for _, o := range opsSaid(t) {
		if o.op < impl.OpAdd || o.name == "jump" {
			continue
		}
		p, a := opAlone(t, o)
		verifyIs(t, o.name, p, impl.VerifyOut{})
		checkIs(t, o.name, p, a, flaw(0, 0))
		right := a.Code[3]
		with := func(what string, i impl.AsmIns, want impl.CheckOut) {
			t.Helper()
			a.Code[3] = i
			checkIs(t, what+" of "+o.name, p, a, want)
		}
		for k, v := range right.L {
			for _, other := range valsRead(t, "r0 r1 r2 r3 m0 m15 #0 #1 #6") {
				if other != v {
					i := copyIns(right)
					i.L[k] = other
					with(fmt.Sprint("another operand ", k), i, flaw(3, impl.ErrFlow))
				}
			}
			moved := withPre(copyIns(right), mov(9, v))
			moved.L[k] = loc(9)
			with(fmt.Sprint("an operand ", k, " that is moved"), moved, flaw(0, 0))
			moved.Pre[0].From = loc(9)
			with(fmt.Sprint("an operand ", k, " that is not moved"), moved, flaw(3, impl.ErrFlow))
		}
		for _, i := range []impl.AsmIns{nop(), asmIns(1, 6, 0, right.L[0]), asmIns(1, 20, 0, con(0))} {
			with("a nop or a move in place", i, flaw(3, impl.ErrFlow))
		}
		for tt := int64(1); tt <= 2; tt++ {
			want := flaw(3, impl.ErrFlow)
			if o.name == "jz" {
				want = flaw(0, 0)
			}
			with("a guard in place", asmIns(3, -1, tt, right.L[len(right.L)-1]), want)
		}
		for _, form := range asmForms() {
			i := copyIns(right)
			i.Op = form.op
			if form.to == "none" {
				i.To = -1
			} else if i.To == -1 {
				i.To = 6
			}
			if form.op == o.op || !insSaid(p, 0, i) {
				continue
			}
			with(fmt.Sprint("the op ", form.op, " in place"), i, flaw(3, impl.ErrFlow))
		}
		if o.arg == "func" || o.arg == "place" {
			i := copyIns(right)
			i.T++
			if o.arg == "place" {
				i.T = 3
			}
			with("another T", i, flaw(3, impl.ErrFlow))
		}
		if o.puts > 0 {
			for _, to := range nums(-1, 0, 2, 5, 7, 21) {
				i := copyIns(right)
				i.To = to
				with(fmt.Sprint("a To of ", to), i, flaw(3, impl.ErrStack))
			}
			with("a move over the result ahead", withPre(right, mov(6, con(5))), flaw(0, 0))
		}
	}
}

// Each op of arithmetic on numbers that are known: its result as a number, by each way to tell it, or none, if there is a Trap.
func TestCheckOfEachNumber(t *testing.T) {
	edges := nums(math.MinInt64, -1, 0, 1, 63, 64, 300, math.MaxInt64)
	traps := 0
	for op := int64(impl.OpAdd); op <= impl.OpWord; op++ {
		for _, x := range edges {
			for _, y := range edges {
				operands := vals(con(x), con(y))
				if op >= impl.OpNeg {
					operands = operands[1:]
				}
				var code []impl.Ins
				var a impl.Asm
				for k, v := range operands {
					code = append(code, ins(impl.OpPush, v.N))
					a.Code, a.Maps = append(a.Code, nop()), append(a.Maps, operands[:k])
				}
				code = append(code, ins(op, 0), ins(impl.OpRet, 0))
				a.Code, a.Maps = append(a.Code, nop(), nop()), append(a.Maps, operands, nil)
				p := programOf(impl.Func{Code: code})
				last := len(code) - 1
				n, known := resultSaid(op, operands)
				tell := func(what string, i impl.AsmIns, v impl.Val, want impl.CheckOut) {
					t.Helper()
					a.Code[last-1], a.Code[last], a.Maps[last] = i, asmIns(impl.OpRet, -1, 0, v), vals(v)
					if got := impl.Check(p, a); got != want {
						t.Errorf("Check of op %d of %+v, %s: got %+v, want %+v", op, operands, what, got, want)
					}
				}
				here := int64(last - 1)
				same := asmIns(op, 3, 0, operands...)
				tell("the same op", same, loc(3), flaw(0, 0))
				tell("the same op, elsewhere", same, loc(2), flaw(here, impl.ErrStack))
				if !known {
					traps++
					for _, n := range nums(0, x, y) {
						tell("with a trap, by nop", nop(), con(n), flaw(here, impl.ErrFlow))
						tell("with a trap, by move", asmIns(1, 3, 0, con(n)), loc(3), flaw(here, impl.ErrFlow))
						tell("with a trap, told as a number", same, con(n), flaw(here, impl.ErrStack))
					}
					continue
				}
				tell("by nop", nop(), con(n), flaw(0, 0))
				tell("by nop, nowhere", nop(), loc(3), flaw(here, impl.ErrStack))
				tell("by nop, another number", nop(), con(n+1), flaw(here, impl.ErrStack))
				tell("by nop, another number above", nop(), con(n^math.MinInt64), flaw(here, impl.ErrStack))
				tell("by move", asmIns(1, 3, 0, con(n)), loc(3), flaw(0, 0))
				tell("by move of another number", asmIns(1, 3, 0, con(n^1<<40)), loc(3), flaw(here, impl.ErrStack))
				tell("by move, told as a number", asmIns(1, 3, 0, con(n)), con(n), flaw(0, 0))
				tell("the same op, told as a number", same, con(n), flaw(0, 0))
				tell("the same op, told as another number", same, con(n-1), flaw(here, impl.ErrStack))
			}
		}
	}
	if traps != 2*8 {
		t.Errorf("%d had a trap", traps)
	}
}

// A checkEdit makes one fault; rank says which one is told ahead of which other ones.
type checkEdit struct {
	what string
	rank int64
	want impl.CheckOut
	do   func(a *impl.Asm)
}

// edProgram is a function in which locals 0 and 1 are asked for nearly everywhere.
func edProgram(t *testing.T) impl.Program {
	t.Helper()
	return programOf(funcOf(t, 2, 3, "load 0; push 5; add; dup; store 2; out; load 2; jz 0; load 0; load 1; add; ret"))
}

func checkEdits(p impl.Program, right impl.Asm) []checkEdit {
	live := impl.Live(p, 0)
	l := []checkEdit{
		{"no such function", -4, flaw(0, impl.ErrForm), func(a *impl.Asm) { a.Func = 1 }},
		{"a map too long", -3, flaw(0, impl.ErrForm), func(a *impl.Asm) { a.Maps[7] = append(a.Maps[7], con(1)) }},
		{"an arg as a number", -2, flaw(0, impl.ErrFlow), func(a *impl.Asm) { a.Maps[0][0] = con(0) }},
		{"a local as a number", -1, flaw(0, impl.ErrFlow), func(a *impl.Asm) { a.Maps[0][2] = con(3) }},
		{"two locals in one loc", -1, flaw(0, impl.ErrFlow), func(a *impl.Asm) { a.Maps[0][2] = a.Maps[0][0] }},
	}
	for at := range int64(len(right.Code)) {
		for slot := int64(len(right.Maps[at])) - 1; slot >= 1; slot-- {
			if live[at]>>slot&1 == 1 {
				l = append(l, checkEdit{fmt.Sprint("slot ", slot, " nowhere at ", at), 3 * at, flaw(at, impl.ErrNone), func(a *impl.Asm) { a.Maps[at][slot] = impl.Val{} }})
				break
			}
		}
		l = append(l, checkEdit{fmt.Sprint("another op at ", at), 3*at + 1, flaw(at, impl.ErrFlow), func(a *impl.Asm) {
			a.Code[at] = withPre(asmIns(impl.OpJump, -1, 11), a.Code[at].Pre...)
		}})
		if at < 11 {
			l = append(l, checkEdit{fmt.Sprint("a number over a local at ", at), 3*at + 2, flaw(at, impl.ErrStack), func(a *impl.Asm) {
				a.Code[at].Pre = []impl.Mov{mov(6, con(77))}
			}})
		}
	}
	return l
}

// Each fault alone, and each two at once, in one place and in two.
func TestCheckFaultsTogether(t *testing.T) {
	p := edProgram(t)
	right := cellCode(p, 0)
	checkIs(t, "code without a fault", p, right, flaw(0, 0))
	edits := checkEdits(p, right)
	for k, x := range edits {
		a := copyAsm(right)
		x.do(&a)
		checkIs(t, x.what, p, a, x.want)
		for _, y := range edits[:k] {
			a := copyAsm(right)
			y.do(&a)
			x.do(&a)
			want := x.want
			if y.rank < x.rank {
				want = y.want
			}
			if got := impl.Check(p, a); got != want {
				t.Errorf("Check with %s and %s: got %+v, want %+v", y.what, x.what, got, want)
			}
		}
	}
	if len(edits) < 35 {
		t.Errorf("only %d faults", len(edits))
	}
}

// Faults at an OpJz and at the places to which it goes on: the lesser place is told, whichever way it is gone to.
func TestCheckOrderOfPlaces(t *testing.T) {
	p := programOf(funcOf(t, 2, 2, "jump 5; load 1; ret; load 0; ret; load 0; jz 1; jump 3"))
	right := regsOf(t, 0, `r0 r1 | | jump@5
- r1 | | nop
- - r1 | | ret r1
r0 - | | nop
r0 - r0 | | ret r0
r0 r1 | | nop
r0 r1 r0 | | jz@1 r0
r0 - | | jump@3`)
	checkIs(t, "ways to and fro", p, right, flaw(0, 0))
	for _, c := range []struct {
		what string
		want impl.CheckOut
		do   func(a *impl.Asm)
	}{
		{"another loc at the A of a jz", flaw(6, impl.ErrStack), func(a *impl.Asm) { a.Maps[1][1], a.Maps[2][2], a.Code[2].L[0] = loc(3), loc(3), loc(3) }},
		{"another loc behind a jz", flaw(6, impl.ErrStack), func(a *impl.Asm) { a.Maps[7][0] = loc(3) }},
		{"another loc at the A of a jump", flaw(7, impl.ErrStack), func(a *impl.Asm) {
			a.Maps[3][0], a.Maps[4][0], a.Maps[4][2], a.Code[4].L[0] = loc(3), loc(3), loc(3), loc(3)
		}},
		{"another loc at the A of the first jump", flaw(0, impl.ErrStack), func(a *impl.Asm) { a.Maps[5][1] = loc(3) }},
		{"another loc at both", flaw(1, impl.ErrFlow), func(a *impl.Asm) {
			a.Maps[1][1] = loc(3)
			a.Code[1] = asmIns(impl.OpJump, -1, 2)
			a.Maps[7][0] = loc(3)
		}},
		{"a live none that the last place goes on to", flaw(3, impl.ErrNone), func(a *impl.Asm) { a.Maps[3][0] = impl.Val{} }},
		{"a live none, and a fault ahead of it", flaw(1, impl.ErrFlow), func(a *impl.Asm) { a.Maps[3][0] = impl.Val{}; a.Code[1] = asmIns(impl.OpJump, -1, 2) }},
	} {
		a := copyAsm(right)
		c.do(&a)
		checkIs(t, c.what, p, a, c.want)
		if got := checkSaid(saidOf(t), p, a); got != c.want {
			t.Errorf("%s: the second way says %+v, want %+v", c.what, got, c.want)
		}
	}
}

func locsWith(l ...int64) []int64 {
	locs := make([]int64, impl.MaxLocs)
	for k := 0; k < len(l); k += 2 {
		locs[l[k]] = l[k+1]
	}
	return locs
}

// anyStart is a function of so many Args and five locals, for none of which anybody asks.
func anyStart(t *testing.T, args int64, begin string) (impl.Program, impl.Asm) {
	t.Helper()
	return programOf(good(t), funcOf(t, args, 5, "push 1; ret")), regsOf(t, 1, begin+" | | nop; - - - - - #1 | | ret #1")
}

func TestEntryByHand(t *testing.T) {
	for _, c := range []struct {
		begin string
		args  []int64
		want  []int64
	}{
		{"r0 r1 r2 r3 r4", nums(), locsWith()},
		{"r0 r1 r2 r3 r4", nums(7), locsWith(0, 7)},
		{"r0 r1 r2 r3 r4", nums(7, -8, 9, 10), locsWith(0, 7, 1, -8, 2, 9, 3, 10)},
		{"r5 r4 m0 m15 m1", nums(7, 8, 9, 10), locsWith(5, 7, 4, 8, 6, 9, 21, 10)},
		{"m15 - r0 - -", nums(7, 8, 9, 10), locsWith(21, 7, 0, 9)},
		{"- - - - -", nums(7, 8, 9, 10), locsWith()},
		{"r1 #0 #0 - r0", nums(math.MinInt64), locsWith(1, math.MinInt64)},
		{"r1 m3 #0 #0 #0", nums(math.MaxInt64, 0), locsWith(1, math.MaxInt64)},
		{"#0 #0 #0 #0 #0", nums(), locsWith()},
		{"r1 r0 r2 r3 r4", nums(0, 0, 5), locsWith(2, 5)},
	} {
		p, a := anyStart(t, int64(len(c.args)), c.begin)
		checkIs(t, c.begin, p, a, flaw(0, 0))
		entryIs(t, c.begin, p, a, c.args, c.want)
	}
}

// Too few and too many args, lists of MaxList and more among them.
func TestEntryOfOtherArgs(t *testing.T) {
	for args := range int64(5) {
		p, a := anyStart(t, args, "r0 r1 r2 r3 r4")
		for _, n := range nums(0, 1, 2, 3, 4, 5, 6, 22, 256, impl.MaxList, impl.MaxList+1, 1000, 65536) {
			l := manyNumbers(n, 3)
			if n == args {
				entryIs(t, "as many args", p, a, l, append(l, make([]int64, impl.MaxLocs-n)...))
				continue
			}
			entryIs(t, fmt.Sprint(n, " args for ", args), p, a, l, nil)
		}
	}
}

func TestRebuildByHand(t *testing.T) {
	p := programOf(good(t), funcOf(t, 1, 3, "load 0; push 7; load 1; set; push 1; ret; pop"))
	a := regsOf(t, 1, `r0 m15 #0 | | nop
- m15 #0 r0 | m14=r0 | move>r5 #7
- m15 #0 m14 #7 | | nop
- - #0 m14 r5 m15 | r1=#0 | set m14 r5 m15
- - #0 | m0=#-3 | nop
- - #0 #1 | | ret #1
| | nop`)
	checkIs(t, "a set of a number that is known no more", p, a, flaw(2, impl.ErrStack))
	a.Maps[3][4], a.Code[3].L[1] = con(7), con(7)
	checkIs(t, "a set of a number that is known", p, a, flaw(0, 0))
	locs := manyNumbers(impl.MaxLocs, 100)
	locs[0], locs[20], locs[21] = math.MinInt64, -9, math.MaxInt64
	for at, want := range []impl.Frame{
		{Func: 1, Pc: 0, Locals: nums(math.MinInt64, math.MaxInt64, 0)},
		{Func: 1, Pc: 1, Locals: nums(0, math.MaxInt64, 0), Stack: nums(math.MinInt64)},
		{Func: 1, Pc: 2, Locals: nums(0, math.MaxInt64, 0), Stack: nums(-9, 7)},
		{Func: 1, Pc: 3, Locals: nums(0, 0, 0), Stack: nums(-9, 7, math.MaxInt64)},
		{Func: 1, Pc: 4, Locals: nums(0, 0, 0)},
		{Func: 1, Pc: 5, Locals: nums(0, 0, 0), Stack: nums(1)},
		{},
	} {
		rebuildIs(t, "a set", p, a, int64(at), locs, want)
	}
	for at, want := range []impl.Frame{{Func: 1, Pc: 0, Locals: nums(0, 0, 0)}, {Func: 1, Pc: 1, Locals: nums(0, 0, 0), Stack: nums(0)}} {
		rebuildIs(t, "a set, of noughts", p, a, int64(at), make([]int64, impl.MaxLocs), want)
	}
}

// A frame of no locals and one of an empty stack, and the most slots that there can be.
func TestRebuildSizes(t *testing.T) {
	p := programOf(funcOf(t, 0, 0, "push 1; ret"), mostSlots(t).Funcs[0])
	rebuildIs(t, "no slot at all", p, regsOf(t, 0, "| | nop; #1 | | ret #1"), 0, make([]int64, impl.MaxLocs), impl.Frame{})
	rebuildIs(t, "one slot", p, regsOf(t, 0, "| | nop; #1 | | ret #1"), 1, make([]int64, impl.MaxLocs), impl.Frame{Pc: 1, Stack: nums(1)})
	locs := manyNumbers(impl.MaxLocs, 11)
	rebuildIs(t, "the most slots", p, cellCode(p, 1), 8, locs, impl.Frame{Func: 1, Pc: 8, Locals: locs[6:14], Stack: locs[14:22]})
}

// Numbers of locs that are not MaxLocs, places that are not there, and those that are not reached.
func TestRebuildOfOthers(t *testing.T) {
	p := programOf(good(t), funcOf(t, 1, 2, "jump 2; pop; load 0; ret; jump 1"))
	a := regsOf(t, 1, "r0 r1 | | jump@2; | | nop; r0 r1 | | nop; - r1 r0 | | ret r0; | | nop")
	checkIs(t, "code with places that are not reached", p, a, flaw(0, 0))
	locs := manyNumbers(impl.MaxLocs, 4)
	for _, at := range append(farNumbers(), 1, 4, 5, 6) {
		rebuildIs(t, "a place that is not there", p, a, at, locs, impl.Frame{})
	}
	for _, n := range nums(0, 1, 2, 6, impl.MaxLocs-1, impl.MaxLocs+1, 2*impl.MaxLocs, 256, impl.MaxList, impl.MaxList+1, 1000, 65536) {
		for at := int64(-1); at <= 5; at++ {
			rebuildIs(t, fmt.Sprint("with ", n, " numbers"), p, a, at, manyNumbers(n, 4), impl.Frame{})
		}
	}
	for at, want := range map[int64]impl.Frame{0: {Func: 1, Locals: locs[:2]}, 2: {Func: 1, Pc: 2, Locals: locs[:2]}, 3: {Func: 1, Pc: 3, Locals: nums(0, locs[1]), Stack: locs[:1]}} {
		rebuildIs(t, "a place that is reached", p, a, at, locs, want)
	}
}

// Code that is not right is refused ahead of all else, and there is nothing to enter nor to rebuild.
func TestCheckOfWrongCode(t *testing.T) {
	p := summing(t)
	for _, c := range asmChanges() {
		a := mixedAsm()
		c.do(&a)
		checkIs(t, "code that fits no function, "+c.what, p, a, flaw(0, impl.ErrForm))
	}
	checkIs(t, "no code", p, impl.Asm{}, flaw(0, impl.ErrForm))
	right := regsOf(t, 0, sumRegs)
	for what, do := range map[string]func(a *impl.Asm){
		"a To that is none":                  func(a *impl.Asm) { a.Code[4].To = 22 },
		"a To of a nop":                      func(a *impl.Asm) { a.Code[0].To = 0 },
		"a T of an op":                       func(a *impl.Asm) { a.Code[4].T = 1 },
		"an operand too many":                func(a *impl.Asm) { a.Code[4].L = append(a.Code[4].L, loc(0)) },
		"an operand that is none":            func(a *impl.Asm) { a.Code[12].L[0] = impl.Val{} },
		"a loc that is none":                 func(a *impl.Asm) { a.Maps[12][2] = loc(22) },
		"a none with a number":               func(a *impl.Asm) { a.Maps[12][0] = impl.Val{N: 1} },
		"a Val of another kind":              func(a *impl.Asm) { a.Maps[12][0] = impl.Val{Kind: 9} },
		"a move from none":                   func(a *impl.Asm) { a.Code[12].Pre = []impl.Mov{{To: 1}} },
		"17 moves":                           func(a *impl.Asm) { a.Code[12].Pre = slices.Repeat([]impl.Mov{mov(9, con(1))}, 17) },
		"a map too long":                     func(a *impl.Asm) { a.Maps[12] = append(a.Maps[12], loc(0)) },
		"one place less":                     func(a *impl.Asm) { a.Code, a.Maps = a.Code[:12], a.Maps[:12] },
		"one place more":                     func(a *impl.Asm) { a.Code, a.Maps = append(a.Code, nop()), append(a.Maps, nil) },
		"more than MaxList places":           func(a *impl.Asm) { a.Code, a.Maps = longer(a.Code, 401), longer(a.Maps, 401) },
		"another function":                   func(a *impl.Asm) { a.Func = 1 },
		"a function below 0":                 func(a *impl.Asm) { a.Func = -1 },
		"an op that is none":                 func(a *impl.Asm) { a.Code[0].Op = 2 },
		"an op that stands in programs only": func(a *impl.Asm) { a.Code[0] = asmIns(impl.OpPop, -1, 0, loc(0)) },
	} {
		a := copyAsm(right)
		do(&a)
		checkIs(t, what, p, a, flaw(0, impl.ErrForm))
		// It is told ahead of all that is wrong elsewhere.
		a.Maps[0], a.Code[1] = vals(con(1), impl.Val{}), nop()
		checkIs(t, what+", and other faults", p, a, flaw(0, impl.ErrForm))
	}
}

func TestCheckOfWrongPrograms(t *testing.T) {
	right := regsOf(t, 0, sumRegs)
	refusedAll := func(t *testing.T, what string, p impl.Program, f int64) {
		t.Helper()
		a := right
		a.Func = f
		if got := impl.Check(p, a); got != flaw(0, impl.ErrForm) {
			t.Errorf("Check of code for function %d of %s: got %+v", f, what, got)
		}
		entryIs(t, what, p, a, nums(1), nil)
		rebuildIs(t, what, p, a, 0, make([]int64, impl.MaxLocs), impl.Frame{})
	}
	ofWrongPrograms(t, refusedAll)
	ofNoFunction(t, refusedAll)
}

// What is let in for a function is so for the same one at another place of a program, and not for another one.
func TestCheckOfOtherFunctions(t *testing.T) {
	p := programOf(summing(t).Funcs[0], funcOf(t, 1, 2, strings.Replace(sumCode, "sub", "add", 1)), summing(t).Funcs[0])
	for f, want := range []impl.CheckOut{{}, flaw(8, impl.ErrFlow), {}} {
		a := regsOf(t, int64(f), sumRegs)
		checkIs(t, "code of a loop", p, a, want)
		checkIs(t, "code that stands as it is", p, cellCode(p, int64(f)), flaw(0, 0))
	}
	for what, p := range asmPrograms(t) {
		for f := range int64(len(p.Funcs)) {
			checkIs(t, fmt.Sprint("code that stands as it is, of function ", f, " of ", what), p, cellCode(p, f), flaw(0, 0))
		}
	}
}

// Promise 14, of code that is thrown to be let in; and what is told is told beside the plain machine.
func TestThrownLetIn(t *testing.T) {
	d := &dice{u: 21}
	said := saidOf(t)
	steps, lives := 0, 0
	kinds := map[string]int{}
	for k := range 400 {
		ops := opsSaid(t)
		if k%2 == 0 {
			ops = jumpyOps(t)
		}
		p, a := letInThrown(t, d, ops)
		what := fmt.Sprint("thrown code ", k)
		if got := checkSaid(said, p, a); got != flaw(0, 0) {
			t.Fatalf("%s: the second way says %+v\nof %+v\nas %+v", what, got, p, a)
		}
		checkIs(t, what, p, a, flaw(0, 0))
		lives += promiseFourteen(t, what, p, a, manyNumbers(p.Funcs[a.Func].Args, 9))
		for _, from := range nums(0, 1, -4) {
			steps += alongside(t, what, said, p, a, manyNumbers(p.Funcs[a.Func].Args, from), 40)
		}
		for at, i := range a.Code {
			kinds[fmt.Sprint("op ", i.Op)]++
			kinds[fmt.Sprint("moves ", min(len(i.Pre), 3))]++
			for slot, v := range a.Maps[at] {
				kinds[fmt.Sprint("kind ", v.Kind)]++
				if v.Kind == 1 && slices.Index(a.Maps[at], v) < slot {
					kinds["shared"]++
				}
			}
		}
	}
	for _, what := range []string{"op 0", "op 1", "op 3", "op 10", "op 30", "op 31", "op 32", "op 33", "op 38", "moves 0", "moves 1", "moves 2", "kind 0", "kind 1", "kind 2", "shared"} {
		if kinds[what] < 50 {
			t.Errorf("%s: only %d", what, kinds[what])
		}
	}
	if steps < 5000 || lives < 200 {
		t.Errorf("only %d steps were done beside the plain machine, and %d locals are live at a beginning", steps, lives)
	}
}

// changedCode is code of which one thing is thrown anew.
func changedCode(d *dice, a impl.Asm) impl.Asm {
	a = copyAsm(a)
	at := d.below(len(a.Code))
	i := &a.Code[at]
	l := a.Maps[at]
	forms := asmForms()
	switch d.below(9) {
	case 0:
		i.To = int64(d.below(impl.MaxLocs+1)) - 1
	case 1:
		i.T = int64(d.below(len(a.Code)+1)) - 1
	case 2:
		i.Op = forms[d.below(len(forms))].op
	case 3:
		*i = withPre(nop(), i.Pre...)
	case 4:
		i.Pre = append(i.Pre, mov(int64(d.below(impl.MaxLocs)), thrownVal(d, false)))
	case 5:
		if len(i.Pre) > 0 {
			k := d.below(len(i.Pre))
			i.Pre = slices.Delete(i.Pre, k, k+1)
		}
	case 6:
		if len(i.L) > 0 {
			i.L[d.below(len(i.L))] = thrownVal(d, false)
		}
	default:
		if len(l) > 0 {
			l[d.below(len(l))] = append(vals(thrownVal(d, true)), l...)[d.below(len(l)+1)]
		}
	}
	return a
}

// Code that was let in, of which one thing or two are thrown anew: what is let in then tells the same as the plain machine, too.
func TestThrownChanges(t *testing.T) {
	d := &dice{u: 22}
	said := saidOf(t)
	seen := map[int64]int{}
	for k := range 500 {
		ops := opsSaid(t)
		if k%2 == 0 {
			ops = jumpyOps(t)
		}
		p, right := letInThrown(t, d, ops)
		for range 12 {
			a := changedCode(d, right)
			if d.below(3) == 0 {
				a = changedCode(d, a)
			}
			what := fmt.Sprint("changed code ", k)
			want := checkSaid(said, p, a)
			if got := impl.Check(p, a); got != want {
				t.Fatalf("Check of %s: got %+v, want %+v\nof %+v\nas %+v", what, got, want, p, a)
			}
			seen[want.Code]++
			if want.Code == impl.OK {
				promiseFourteen(t, what, p, a, manyNumbers(p.Funcs[a.Func].Args, 9))
				alongside(t, what, said, p, a, manyNumbers(p.Funcs[a.Func].Args, 2), 40)
			}
		}
	}
	for _, code := range nums(impl.OK, impl.ErrForm, impl.ErrFlow, impl.ErrStack, impl.ErrNone) {
		if seen[code] < 100 {
			t.Errorf("only %d pieces of code with code %d were looked at", seen[code], code)
		}
	}
}

// Right code of which all is thrown.
func TestCheckOfThrownCode(t *testing.T) {
	d := &dice{u: 23}
	said := saidOf(t)
	seen := map[int64]int{}
	for range 500 {
		p := thrownRight(t, d, opsSaid(t))
		for f := range int64(len(p.Funcs)) {
			a := thrownAsm(d, p, f)
			want := checkSaid(said, p, a)
			if got := impl.Check(p, a); got != want {
				t.Fatalf("Check of thrown code: got %+v, want %+v\nof %+v\nas %+v", got, want, p, a)
			}
			seen[want.Code]++
		}
	}
	if seen[impl.ErrFlow] < 100 || seen[impl.ErrNone] < 50 {
		t.Errorf("too little was looked at: %v", seen)
	}
}

// The same is answered again, whatever was asked in between, and answers grow into nothing.
func TestCheckKeepsNothing(t *testing.T) {
	p := summing(t)
	a := regsOf(t, 0, sumRegs)
	args, locs := nums(5), manyNumbers(impl.MaxLocs, 6)
	entry, frame := impl.Entry(p, a, args), impl.Rebuild(p, a, 4, locs)
	_ = append(entry, -7)
	_ = append(frame.Locals, -7)
	_ = append(frame.Stack, -7)
	want := impl.Frame{Pc: 4, Locals: locs[:2], Stack: nums(locs[1], locs[0])}
	for range 3 {
		other := nested(t)
		impl.Check(other, cellCode(other, 1))
		impl.Entry(other, cellCode(other, 2), nums(9))
		impl.Rebuild(other, cellCode(other, 0), 3, locs)
		impl.Check(impl.Program{}, a)
		checkIs(t, "code that was asked for ahead", p, a, flaw(0, 0))
		entryIs(t, "code that was asked for ahead", p, a, args, locsWith(0, 5))
		rebuildIs(t, "code that was asked for ahead", p, a, 4, locs, want)
	}
	stateIs(t, "a frame that was answered ahead", impl.State{Frames: []impl.Frame{frame}}, impl.State{Frames: []impl.Frame{want}})
	if !slices.Equal(entry, locsWith(0, 5)) {
		t.Errorf("locs that were answered ahead: %d", entry)
	}
}

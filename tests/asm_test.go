package tests

import (
	"encoding/binary"
	"fmt"
	"math"
	"slices"
	"strings"
	"testing"

	"loop.example/g00219/impl"
)

func loc(n int64) impl.Val {
	return impl.Val{Kind: impl.ValLoc, N: n}
}

func con(n int64) impl.Val {
	return impl.Val{Kind: impl.ValConst, N: n}
}

func vals(l ...impl.Val) []impl.Val {
	return l
}

func mov(to int64, from impl.Val) impl.Mov {
	return impl.Mov{To: to, From: from}
}

// asmIns is an instruction of registers without Pre.
func asmIns(op int64, to int64, t int64, l ...impl.Val) impl.AsmIns {
	return impl.AsmIns{Op: op, To: to, T: t, L: l}
}

func nop() impl.AsmIns {
	return asmIns(impl.AsmNop, -1, 0)
}

// withPre is the same instruction with moves ahead of it.
func withPre(i impl.AsmIns, pre ...impl.Mov) impl.AsmIns {
	i.Pre = pre
	return i
}

func copyIns(i impl.AsmIns) impl.AsmIns {
	i.Pre, i.L = slices.Clone(i.Pre), slices.Clone(i.L)
	return i
}

func copyAsm(a impl.Asm) impl.Asm {
	a.Code, a.Maps = slices.Clone(a.Code), slices.Clone(a.Maps)
	for at := range a.Code {
		a.Code[at] = copyIns(a.Code[at])
	}
	for at := range a.Maps {
		a.Maps[at] = slices.Clone(a.Maps[at])
	}
	return a
}

// asmTold is all that code has, empty lists and none told alike.
func asmTold(a impl.Asm) string {
	var told []byte
	put := func(l ...int64) {
		for _, n := range l {
			told = binary.AppendVarint(told, n)
		}
	}
	putVals := func(l []impl.Val) {
		put(int64(len(l)))
		for _, v := range l {
			put(v.Kind, v.N)
		}
	}
	put(a.Func, int64(len(a.Code)), int64(len(a.Maps)))
	for _, i := range a.Code {
		put(i.Op, i.To, i.T, int64(len(i.Pre)))
		for _, m := range i.Pre {
			put(m.To, m.From.Kind, m.From.N)
		}
		putVals(i.L)
	}
	for _, l := range a.Maps {
		putVals(l)
	}
	return string(told)
}

// asmForm is what an op asks of an instruction of registers: To none, a loc, or any of both; L so many; T of a kind.
type asmForm struct {
	op    int64
	to    string
	takes int64
	t     string
}

// asmForms are the ops that may stand in code of registers, as the document lists them.
func asmForms() []asmForm {
	l := []asmForm{
		{0, "none", 0, "nought"}, {1, "loc", 1, "nought"}, {3, "none", 1, "guard"},
		{30, "none", 0, "place"}, {31, "none", 1, "place"}, {32, "any", -1, "function"}, {33, "none", 1, "nought"},
		{34, "any", 1, "nought"}, {35, "any", 2, "nought"}, {36, "none", 3, "nought"}, {37, "any", 1, "nought"}, {38, "none", 1, "nought"},
	}
	for op := int64(10); op <= 29; op++ {
		takes := int64(2)
		if op >= 24 {
			takes = 1
		}
		l = append(l, asmForm{op, "any", takes, "nought"})
	}
	return l
}

func formOf(op int64) (asmForm, bool) {
	l := asmForms()
	at := slices.IndexFunc(l, func(x asmForm) bool { return x.op == op })
	if at < 0 {
		return asmForm{}, false
	}
	return l[at], true
}

func locSaid(n int64) bool {
	return n >= 0 && n <= 21
}

func valSaid(v impl.Val) bool {
	return v == impl.Val{} || v.Kind == 1 && locSaid(v.N) || v.Kind == 2
}

func numberSaid(v impl.Val) bool {
	return valSaid(v) && v.Kind != 0
}

// fieldsSaid asks of To, T and how many L there are what the form says.
func fieldsSaid(p impl.Program, f int64, form asmForm, i impl.AsmIns) bool {
	to := map[string]bool{"none": i.To == -1, "loc": locSaid(i.To), "any": i.To == -1 || locSaid(i.To)}
	bounds := map[string][2]int64{"nought": {0, 0}, "guard": {1, 2}, "place": {0, int64(len(p.Funcs[f].Code)) - 1}, "function": {0, int64(len(p.Funcs)) - 1}}[form.t]
	if !to[form.to] || i.T < bounds[0] || i.T > bounds[1] {
		return false
	}
	if form.t == "function" {
		return int64(len(i.L)) == p.Funcs[i.T].Args
	}
	return int64(len(i.L)) == form.takes
}

func insSaid(p impl.Program, f int64, i impl.AsmIns) bool {
	for _, m := range i.Pre {
		if !locSaid(m.To) || !numberSaid(m.From) {
			return false
		}
	}
	for _, v := range i.L {
		if !numberSaid(v) {
			return false
		}
	}
	form, there := formOf(i.Op)
	return there && len(i.Pre) <= 16 && fieldsSaid(p, f, form, i)
}

// asmSaid is AsmRight a second way; the program is right.
func asmSaid(p impl.Program, a impl.Asm) bool {
	if a.Func < 0 || a.Func >= int64(len(p.Funcs)) {
		return false
	}
	f := p.Funcs[a.Func]
	if len(a.Code) != len(f.Code) || len(a.Maps) != len(f.Code) {
		return false
	}
	for at, height := range impl.Heights(p, a.Func) {
		if height == -1 {
			if asmTold(impl.Asm{Code: a.Code[at : at+1]}) != asmTold(impl.Asm{Code: []impl.AsmIns{nop()}}) || len(a.Maps[at]) != 0 {
				return false
			}
			continue
		}
		if int64(len(a.Maps[at])) != f.Locals+height || slices.ContainsFunc(a.Maps[at], func(v impl.Val) bool { return !valSaid(v) }) {
			return false
		}
		if !insSaid(p, a.Func, a.Code[at]) {
			return false
		}
	}
	return true
}

// asmPart is a number of code's bytes; most is how many there may be at most, if it says how many there are, else -1.
type asmPart struct {
	n    int64
	most int64
}

func plainPart(n int64) asmPart {
	return asmPart{n, -1}
}

func valParts(v impl.Val) []asmPart {
	return []asmPart{plainPart(v.Kind), plainPart(v.N)}
}

func listParts(l []impl.Val) []asmPart {
	parts := []asmPart{{int64(len(l)), 16}}
	for _, v := range l {
		parts = append(parts, valParts(v)...)
	}
	return parts
}

// asmParts are the numbers of code, right or not, that has as many maps as instructions.
func asmParts(a impl.Asm) []asmPart {
	parts := []asmPart{plainPart(a.Func), {int64(len(a.Code)), 60}}
	for at, i := range a.Code {
		parts = append(parts, asmPart{int64(len(i.Pre)), 16})
		for _, m := range i.Pre {
			parts = append(parts, plainPart(m.To))
			parts = append(parts, valParts(m.From)...)
		}
		parts = append(parts, plainPart(i.Op), plainPart(i.To), plainPart(i.T))
		parts = append(parts, listParts(i.L)...)
		parts = append(parts, listParts(a.Maps[at])...)
	}
	return parts
}

// asmTexts are the bytes of code's numbers, a text each.
func asmTexts(parts []asmPart) []string {
	var l []string
	for _, part := range parts {
		l = append(l, bytesOf(part.n))
	}
	return l
}

func asmTextOf(a impl.Asm) string {
	return textOf(asmTexts(asmParts(a)))
}

// asmCount reads how many there are, of none up to most; behind a fault there are none.
func asmCount(w *fileWalk, most int64) int64 {
	begin := w.at
	n := w.number()
	if n < 0 || n > most {
		w.wrong(begin, impl.ErrForm)
	}
	if w.out.Code != impl.OK {
		return 0
	}
	return n
}

func asmList(w *fileWalk) []impl.Val {
	var l []impl.Val
	for range asmCount(w, 16) {
		kind := w.number()
		l = append(l, impl.Val{Kind: kind, N: w.number()})
	}
	return l
}

// asmReadSaid is AsmRead a second way, for texts of at most MaxBytes bytes; known: is the program right?
func asmReadSaid(p impl.Program, known bool, text string) impl.AsmOut {
	w := &fileWalk{text: text}
	a := impl.Asm{Func: w.number()}
	for range asmCount(w, 60) {
		var i impl.AsmIns
		for range asmCount(w, 16) {
			m := impl.Mov{To: w.number()}
			m.From.Kind = w.number()
			m.From.N = w.number()
			i.Pre = append(i.Pre, m)
		}
		i.Op = w.number()
		i.To = w.number()
		i.T = w.number()
		i.L = asmList(w)
		a.Code = append(a.Code, i)
		a.Maps = append(a.Maps, asmList(w))
	}
	if w.at < len(text) {
		w.wrong(w.at, impl.ErrSyntax)
	}
	if !known || w.out.Code == impl.OK && !asmSaid(p, a) {
		w.wrong(0, impl.ErrForm)
	}
	if w.out.Code != impl.OK {
		return impl.AsmOut{At: w.out.At, Code: w.out.Code}
	}
	return impl.AsmOut{Asm: a}
}

func asmSameIs(t *testing.T, what string, a impl.Asm, b impl.Asm, want bool) {
	t.Helper()
	if got := impl.AsmSame(a, b); got != want {
		t.Errorf("AsmSame, %s: got %v, want %v", what, got, want)
	}
	if got := impl.AsmSame(b, a); got != want {
		t.Errorf("AsmSame, %s, the other way: got %v, want %v", what, got, want)
	}
}

// spoilAsm writes over all that an answer has, and over what room is behind its lists.
func spoilAsm(a impl.Asm) {
	for _, i := range a.Code {
		for at := range i.Pre[:cap(i.Pre)] {
			i.Pre[:cap(i.Pre)][at] = mov(-7, con(-7))
		}
		for at := range i.L[:cap(i.L)] {
			i.L[:cap(i.L)][at] = con(-7)
		}
	}
	for _, l := range a.Maps {
		for at := range l[:cap(l)] {
			l[:cap(l)][at] = con(-7)
		}
	}
	for at := range a.Code[:cap(a.Code)] {
		a.Code[:cap(a.Code)][at] = asmIns(-7, -7, -7)
	}
	for at := range a.Maps[:cap(a.Maps)] {
		a.Maps[:cap(a.Maps)][at] = vals(con(-7))
	}
}

// asmReadIs holds AsmRead against what is wanted, all of it; no answer shares memory with another one.
func asmReadIs(t *testing.T, what string, p impl.Program, text string, want impl.AsmOut) {
	t.Helper()
	program := copyProgram(p)
	got, again := impl.AsmRead(p, text), impl.AsmRead(p, text)
	if got.Code != want.Code || got.At != want.At {
		t.Errorf("AsmRead of %s: got code %d at %d, want code %d at %d", what, got.Code, got.At, want.Code, want.At)
	}
	if asmTold(got.Asm) != asmTold(want.Asm) {
		t.Errorf("AsmRead of %s:\n got %+v\nwant %+v", what, got.Asm, want.Asm)
	}
	spoilAsm(got.Asm)
	if asmTold(again.Asm) != asmTold(want.Asm) {
		t.Errorf("AsmRead of %s: an answer shares memory with another one", what)
	}
	if !impl.ProgramSame(p, program) {
		t.Errorf("AsmRead of %s changed the program", what)
	}
}

func asmRefused(t *testing.T, what string, p impl.Program, text string, at int64, code int64) {
	t.Helper()
	asmReadIs(t, what, p, text, impl.AsmOut{At: at, Code: code})
}

// asmRightIs holds AsmRight and AsmBytes against what is wanted; the program and the code stay as they are.
func asmRightIs(t *testing.T, what string, p impl.Program, a impl.Asm, want bool) {
	t.Helper()
	program, code := copyProgram(p), asmTold(a)
	for range 2 {
		if got := impl.AsmRight(p, a); got != want {
			t.Errorf("AsmRight of %s: got %v, want %v: %+v", what, got, want, a)
		}
		text := ""
		if want {
			text = asmTextOf(a)
		}
		if got := impl.AsmBytes(p, a); got != text {
			t.Errorf("AsmBytes of %s: got %q, want %q", what, got, text)
		}
	}
	if !impl.ProgramSame(p, program) || asmTold(a) != code {
		t.Errorf("AsmRight or AsmBytes of %s changed what it was handed", what)
	}
}

// heldAsm holds code of a right program against the second way, and the bytes of it, right or not. It answers whether it is right.
func heldAsm(t *testing.T, what string, p impl.Program, a impl.Asm) bool {
	t.Helper()
	right := asmSaid(p, a)
	asmRightIs(t, what, p, a, right)
	if len(a.Code) == len(a.Maps) {
		text := asmTextOf(a)
		want := asmReadSaid(p, true, text)
		if (want.Code == impl.OK) != right {
			t.Fatalf("the second way says of %s that it is right: %v, and that it is read with code %d", what, right, want.Code)
		}
		asmReadIs(t, what, p, text, want)
	}
	return right
}

// sixFuncs are six functions; each one but the first has as many Args as its number less 1. The third place of the first is not reached.
func sixFuncs(t *testing.T) impl.Program {
	t.Helper()
	p := programOf(funcOf(t, 1, 3, "load 0; jump 3; set; push 2; jz 6; not; ret"))
	for n := range int64(5) {
		p.Funcs = append(p.Funcs, funcOf(t, n, n, "push 1; ret"))
	}
	verifyIs(t, "six functions", p, impl.VerifyOut{})
	return p
}

// cellCode is code of a function of a right program in which each slot has the cell of its own number.
func cellCode(p impl.Program, f int64) impl.Asm {
	a := impl.Asm{Func: f}
	for at, height := range impl.Heights(p, f) {
		a.Code = append(a.Code, nop())
		a.Maps = append(a.Maps, nil)
		if height == -1 {
			continue
		}
		for slot := range p.Funcs[f].Locals + height {
			a.Maps[at] = append(a.Maps[at], loc(6+slot))
		}
		a.Code[at] = cellIns(p, p.Funcs[f].Code[at], p.Funcs[f].Locals+height)
	}
	return a
}

// cellIns is an instruction at a place at which there are so many slots.
func cellIns(p impl.Program, i impl.Ins, slots int64) impl.AsmIns {
	top := 6 + slots
	switch i.Op {
	case impl.OpPush:
		return asmIns(impl.AsmMove, top, 0, con(i.A))
	case impl.OpLoad:
		return asmIns(impl.AsmMove, top, 0, loc(6+i.A))
	case impl.OpStore:
		return asmIns(impl.AsmMove, 6+i.A, 0, loc(top-1))
	case impl.OpDup:
		return asmIns(impl.AsmMove, top, 0, loc(top-1))
	case impl.OpPop:
		return nop()
	}
	x := asmIns(i.Op, -1, i.A)
	low := top - impl.Takes(p, i)
	for n := low; n < top; n++ {
		x.L = append(x.L, loc(n))
	}
	if impl.Puts(i) > 0 {
		x.To = low
	}
	return x
}

// asmPrograms are right programs of each kind of op, with places that are not reached, and with the most of all.
func asmPrograms(t *testing.T) map[string]impl.Program {
	t.Helper()
	l := filePrograms(t)
	l["six functions"] = sixFuncs(t)
	l["a loop"] = summing(t)
	l["calls"] = nested(t)
	l["the most slots"] = mostSlots(t)
	return l
}

func TestAsmConstants(t *testing.T) {
	got := nums(impl.AsmNop, impl.AsmMove, impl.AsmGuard, impl.ValNone, impl.ValLoc, impl.ValConst)
	if !slices.Equal(got, nums(0, 1, 3, 0, 1, 2)) {
		t.Errorf("the constants of chapter 11: got %d", got)
	}
}

func TestAsmBytesByHand(t *testing.T) {
	two := programOf(good(t))
	branch := programOf(funcOf(t, 0, 0, "push 1; ret"), funcOf(t, 1, 1, "load 0; jz 4; push 7; ret; push 3; ret; pop"))
	call := programOf(funcOf(t, 2, 2, "load 1; load 0; call 0; ret"))
	for _, c := range []struct {
		what  string
		p     impl.Program
		a     impl.Asm
		bytes string
	}{
		{"a number given back", two,
			impl.Asm{Code: []impl.AsmIns{nop(), asmIns(33, -1, 0, con(1))}, Maps: [][]impl.Val{nil, vals(con(1))}},
			"\x00\x04" + "\x00\x00\x01\x00\x00\x00" + "\x00\x42\x01\x00\x02\x04\x02\x02\x04\x02"},
		{"a move, and one ahead of it", two,
			impl.Asm{Code: []impl.AsmIns{withPre(asmIns(1, 21, 0, loc(5)), mov(5, con(-65))), asmIns(33, -1, 0, loc(21))}, Maps: [][]impl.Val{nil, vals(loc(21))}},
			"\x00\x04" + "\x02\x0a\x04\x81\x01\x02\x2a\x00\x02\x02\x0a\x00" + "\x00\x42\x01\x00\x02\x02\x2a\x02\x02\x2a"},
		{"a guard, and a place that is not reached", branch,
			impl.Asm{Func: 1, Code: []impl.AsmIns{nop(), asmIns(3, -1, 2, loc(0)), nop(), asmIns(33, -1, 0, con(7)), nop(), asmIns(33, -1, 0, con(3)), nop()},
				Maps: [][]impl.Val{vals(loc(0)), vals(loc(0), loc(0)), vals(impl.Val{}), vals(impl.Val{}, con(7)), vals(loc(0)), vals(loc(0), con(3)), nil}},
			"\x02\x0e" + "\x00\x00\x01\x00\x00\x02\x02\x00" + "\x00\x06\x01\x04\x02\x02\x00\x04\x02\x00\x02\x00" + "\x00\x00\x01\x00\x00\x02\x00\x00" +
				"\x00\x42\x01\x00\x02\x04\x0e\x04\x00\x00\x04\x0e" + "\x00\x00\x01\x00\x00\x02\x02\x00" + "\x00\x42\x01\x00\x02\x04\x06\x04\x02\x00\x04\x06" + "\x00\x00\x01\x00\x00\x00"},
		{"a jz to the last place but one, and a jump", programOf(funcOf(t, 0, 0, "push 1; jz 2; jump 0")),
			impl.Asm{Code: []impl.AsmIns{nop(), asmIns(31, -1, 2, con(1)), asmIns(30, -1, 0)}, Maps: [][]impl.Val{nil, vals(con(1)), nil}},
			"\x00\x06" + "\x00\x00\x01\x00\x00\x00" + "\x00\x3e\x01\x04\x02\x04\x02\x02\x04\x02" + "\x00\x3c\x01\x00\x00\x00"},
		{"a call", call,
			impl.Asm{Code: []impl.AsmIns{nop(), nop(), asmIns(32, 3, 0, loc(2), loc(1)), asmIns(33, -1, 0, loc(3))},
				Maps: [][]impl.Val{vals(loc(1), loc(2)), vals(loc(1), loc(2), loc(2)), vals(loc(1), loc(2), loc(2), loc(1)), vals(impl.Val{}, impl.Val{}, loc(3))}},
			"\x00\x08" + "\x00\x00\x01\x00\x00\x04\x02\x02\x02\x04" + "\x00\x00\x01\x00\x00\x06\x02\x02\x02\x04\x02\x04" +
				"\x00\x40\x06\x00\x04\x02\x04\x02\x02\x08\x02\x02\x02\x04\x02\x04\x02\x02" + "\x00\x42\x01\x00\x02\x02\x06\x06\x00\x00\x00\x00\x02\x06"},
	} {
		verifyIs(t, c.what, c.p, impl.VerifyOut{})
		if got := impl.AsmBytes(c.p, c.a); got != c.bytes {
			t.Errorf("AsmBytes of %s:\n got %q\nwant %q", c.what, got, c.bytes)
		}
		asmReadIs(t, c.what, c.p, c.bytes, impl.AsmOut{Asm: c.a})
		if !heldAsm(t, c.what, c.p, c.a) {
			t.Errorf("the second way says that %s is not right", c.what)
		}
	}
}

// Each op, those that may not stand in code of registers, too, with each To, each T, and each number of L.
func TestAsmEachOp(t *testing.T) {
	p := sixFuncs(t)
	tos := nums(math.MinInt64, -2, -1, 0, 5, 6, 21, 22, 1<<32)
	ts := nums(math.MinInt64, -1, 0, 1, 2, 3, 4, 5, 6, 7, 8, 256, 1<<32+1)
	base := cellCode(p, 0)
	rights := map[int64]int{}
	for op := int64(-2); op <= 45; op++ {
		for _, to := range tos {
			for _, tt := range ts {
				for n := range 6 {
					for _, at := range []int{0, 3, 6} {
						a := base
						a.Code = slices.Clone(base.Code)
						a.Code[at] = asmIns(op, to, tt, slices.Repeat(vals(loc(21)), n)...)
						want := asmSaid(p, a)
						if got := impl.AsmRight(p, a); got != want {
							t.Errorf("AsmRight with op %d, To %d, T %d and %d L at %d: got %v, want %v", op, to, tt, n, at, got, want)
						}
						if want {
							rights[op]++
						}
					}
				}
			}
		}
	}
	// How many of those are right, counted by hand: of each place the Tos times the Ts (and with each T of a call as many L as that takes).
	for op := int64(-2); op <= 45; op++ {
		want := 0
		switch {
		case op == 0 || op == 33 || op == 36 || op == 38:
			want = 1
		case op == 1:
			want = 4
		case op == 3:
			want = 2
		case op >= 10 && op <= 29, op == 34, op == 35, op == 37:
			want = 5
		case op == 30 || op == 31:
			want = 7
		case op == 32:
			want = 5 * 6
		}
		if rights[op] != 3*want {
			t.Errorf("op %d: right in %d of its forms, want %d", op, rights[op], 3*want)
		}
	}
}

// Ops that are none, in the form of each op that there is.
func TestAsmNoOps(t *testing.T) {
	p := sixFuncs(t)
	for _, form := range asmForms() {
		a := cellCode(p, 0)
		a.Code[3] = asmIns(form.op, -1, 0, slices.Repeat(vals(con(1)), int(max(form.takes, 1)))...)
		switch {
		case form.to == "loc":
			a.Code[3].To = 0
		case form.t == "guard":
			a.Code[3].T = 1
		case form.t == "function":
			a.Code[3].T = 2
		case form.takes == 0:
			a.Code[3].L = nil
		}
		if !heldAsm(t, fmt.Sprint("op ", form.op), p, a) {
			t.Errorf("op %d is not right in its form", form.op)
		}
		for _, op := range append(noOps(), 2, 4, 5, math.MinInt64+3, 256+3, 1<<32, 1<<32+3) {
			if _, there := formOf(op); there {
				continue
			}
			a.Code[3].Op = op
			if heldAsm(t, fmt.Sprint("op ", op, " in the form of ", form.op), p, a) {
				t.Errorf("op %d is right", op)
			}
		}
	}
}

// T of jumps, guards and calls at their ends, in functions of several lengths, and in programs of several functions.
func TestAsmEndsOfT(t *testing.T) {
	for _, length := range []int{2, 3, 59, 60} {
		p := programOf(funcOf(t, 0, 0, times(length-1, "jump 0")+"jump 0"))
		p.Funcs[0].Code[0].A = int64(length - 1)
		for _, at := range []int{0, length - 1} {
			for _, to := range nums(-1, 0, 1, int64(length)-2, int64(length)-1, int64(length), int64(length)+1, math.MaxInt64, math.MinInt64) {
				a := cellCode(p, 0)
				a.Code[at] = asmIns(impl.OpJump, -1, to)
				asmRightIs(t, fmt.Sprint("a jump to ", to, " of ", length), p, a, to >= 0 && to < int64(length))
				a.Code[at] = asmIns(impl.OpJz, -1, to, con(0))
				asmRightIs(t, fmt.Sprint("a jz to ", to, " of ", length), p, a, to >= 0 && to < int64(length))
			}
		}
	}
	for n := range impl.MaxFuncs {
		p := programOf(slices.Repeat([]impl.Func{funcOf(t, 2, 2, "load 0; ret")}, n+1)...)
		for to := int64(-2); to < impl.MaxFuncs+2; to++ {
			a := cellCode(p, int64(n))
			a.Code[0] = asmIns(impl.OpCall, -1, to, con(1), loc(2))
			asmRightIs(t, fmt.Sprint("a call of ", to, " of ", n+1), p, a, to >= 0 && to <= int64(n))
		}
	}
}

// numberEdges are the ends of int64, those of locs, and numbers next to them.
func numberEdges() []int64 {
	return nums(math.MinInt64, math.MinInt64+1, -1<<32, -256, -22, -2, -1, 0, 1, 2, 5, 6, 20, 21, 22, 23, 255, 256, 278, 1<<32, 1<<32+1, math.MaxInt64-1, math.MaxInt64)
}

// Each kind of Val, and kinds that are none, with each number: in L, as a From, and in a map, first and last ones.
func TestAsmVals(t *testing.T) {
	p := sixFuncs(t)
	for _, kind := range nums(math.MinInt64, -256, -2, -1, 0, 1, 2, 3, 4, 256, 257, 258, 1<<32, 1<<32+1, 1<<32+2, math.MaxInt64) {
		for _, n := range numberEdges() {
			v := impl.Val{Kind: kind, N: n}
			what := fmt.Sprintf("%+v", v)
			number := kind == 2 || kind == 1 && n >= 0 && n < 22
			any := number || kind == 0 && n == 0
			for at := range 3 {
				a := cellCode(p, 0)
				a.Code[3] = asmIns(impl.OpSet, -1, 0, con(1), con(2), con(3))
				a.Code[3].L[at] = v
				asmRightIs(t, what+" in L", p, a, number)
				a = cellCode(p, 0)
				a.Code[3].Pre = []impl.Mov{mov(0, con(1)), mov(1, con(2)), mov(2, con(3))}
				a.Code[3].Pre[at].From = v
				asmRightIs(t, what+" as a From", p, a, number)
				a = cellCode(p, 0)
				a.Maps[3][at] = v
				asmRightIs(t, what+" in a map", p, a, any)
				heldAsm(t, what+" in a map", p, a)
			}
			a := cellCode(p, 0)
			a.Maps[6][3] = v
			asmRightIs(t, what+" as the last slot of a map", p, a, any)
			a = cellCode(p, 0)
			a.Code[3] = asmIns(impl.AsmGuard, -1, 1, v)
			asmRightIs(t, what+" of a guard", p, a, number)
			a.Code[3] = asmIns(impl.AsmMove, 0, 0, v)
			asmRightIs(t, what+" of a move", p, a, number)
			a.Code[3] = asmIns(impl.OpCall, 0, 5, loc(0), con(0), loc(21), v)
			asmRightIs(t, what+" of a call", p, a, number)
		}
	}
}

func TestAsmMoves(t *testing.T) {
	p := sixFuncs(t)
	for _, n := range []int{0, 1, 2, 15, 16, 17, 18, 32, impl.MaxList, impl.MaxList + 1} {
		for _, at := range []int{0, 1, 3, 6} {
			a := cellCode(p, 0)
			a.Code[at].Pre = slices.Repeat([]impl.Mov{mov(3, loc(3))}, n)
			asmRightIs(t, fmt.Sprint(n, " moves at ", at), p, a, n <= 16)
			heldAsm(t, fmt.Sprint(n, " moves at ", at), p, a)
			a.Code[at] = withPre(nop(), a.Code[at].Pre...)
			asmRightIs(t, fmt.Sprint(n, " moves ahead of a nop at ", at), p, a, n <= 16)
		}
	}
	for _, to := range numberEdges() {
		for at := range 16 {
			a := cellCode(p, 0)
			a.Code[3].Pre = slices.Repeat([]impl.Mov{mov(3, con(3))}, 16)
			a.Code[3].Pre[at].To = to
			asmRightIs(t, fmt.Sprint("a move to ", to), p, a, to >= 0 && to < 22)
		}
	}
}

func TestAsmMaps(t *testing.T) {
	for what, p := range asmPrograms(t) {
		for f := range int64(len(p.Funcs)) {
			for at, l := range cellCode(p, f).Maps {
				for _, n := range []int{-len(l), -1, 0, 1} {
					if len(l)+n < 0 {
						continue
					}
					a := cellCode(p, f)
					a.Maps[at] = append(slices.Clone(l), slices.Repeat(vals(loc(0)), max(n, 0))...)[:len(l)+n]
					name := fmt.Sprint(what, ", function ", f, ", with ", len(l)+n, " for ", len(l), " in the map of ", at)
					asmRightIs(t, name, p, a, n == 0)
					a.Maps[at] = make([]impl.Val, len(l)+n)
					asmRightIs(t, name+", all of them none", p, a, n == 0)
				}
			}
		}
	}
}

// A place that is not reached has a bare nop and no map; one that is may have a nop with moves.
func TestAsmNotReached(t *testing.T) {
	p := programOf(funcOf(t, 0, 1, "jump 3; pop; jump 1; push 1; ret; load 0"))
	verifyIs(t, "places that are not reached", p, impl.VerifyOut{})
	asmRightIs(t, "bare nops", p, cellCode(p, 0), true)
	for _, at := range []int{1, 2, 5} {
		for _, c := range []struct {
			what string
			i    impl.AsmIns
		}{
			{"a To of 0", asmIns(0, 0, 0)}, {"a To of -2", asmIns(0, -2, 0)}, {"a T of 1", asmIns(0, -1, 1)}, {"a T of -1", asmIns(0, -1, -1)},
			{"a number in L", asmIns(0, -1, 0, con(0))}, {"a none in L", asmIns(0, -1, 0, impl.Val{})},
			{"a move ahead", withPre(nop(), mov(0, loc(0)))}, {"16 moves ahead", withPre(nop(), slices.Repeat([]impl.Mov{mov(0, con(1))}, 16)...)},
			{"a move", asmIns(1, 0, 0, loc(0))}, {"a guard", asmIns(3, -1, 1, loc(0))}, {"a jump", asmIns(30, -1, 1)}, {"a jz", asmIns(31, -1, 1, con(0))},
			{"a ret", asmIns(33, -1, 0, con(1))}, {"an add", asmIns(10, 0, 0, con(1), con(2))}, {"an out", asmIns(38, -1, 0, con(1))},
			{"a call", asmIns(32, -1, 0)}, {"a pop", asmIns(5, -1, 0, con(1))}, {"the zero instruction", impl.AsmIns{}},
		} {
			a := cellCode(p, 0)
			a.Code[at] = c.i
			if heldAsm(t, c.what, p, a) {
				t.Errorf("%s at %d, which is not reached, is right", c.what, at)
			}
		}
		for _, l := range [][]impl.Val{vals(impl.Val{}), vals(loc(0)), vals(con(1)), slices.Repeat(vals(loc(1)), 16)} {
			a := cellCode(p, 0)
			a.Maps[at] = l
			if heldAsm(t, "a map", p, a) {
				t.Errorf("a map of %d at %d, which is not reached, is right", len(l), at)
			}
		}
		a := cellCode(p, 0)
		a.Code[at] = impl.AsmIns{Pre: []impl.Mov{}, To: -1, L: vals()}
		a.Maps[at] = vals()
		asmRightIs(t, "empty lists", p, a, true)
	}
	for _, at := range []int{0, 3, 4} {
		a := cellCode(p, 0)
		a.Code[at] = withPre(nop(), mov(21, con(5)), mov(0, loc(21)))
		asmRightIs(t, "a nop with moves at a place that is reached", p, a, true)
		a.Code[at].To = 0
		asmRightIs(t, "a nop with moves and a To", p, a, false)
		a.Code[at] = nop()
		asmRightIs(t, "a bare nop at a place that is reached", p, a, true)
		a.Code[at] = impl.AsmIns{}
		asmRightIs(t, "the zero instruction", p, a, false)
	}
}

// longer is a list of that length: what it has of l, then again and again its last one.
func longer[T any](l []T, n int) []T {
	c := slices.Clone(l)
	for len(c) < n {
		c = append(c, l[len(l)-1])
	}
	return c[:n]
}

// As many instructions and maps as the function has places, and no others.
func TestAsmSizes(t *testing.T) {
	for _, p := range []impl.Program{programOf(good(t)), summing(t), programOf(funcOf(t, 0, 0, times(59, "jump 0")+"jump 0")), programOf(funcOf(t, 0, 0, times(59, "jump 0")+"jump 58"))} {
		right := cellCode(p, 0)
		places := len(p.Funcs[0].Code)
		sizes := []int{0, 1, 2, places - 1, places, places + 1, 59, 60, 61, 2 * places, impl.MaxList, impl.MaxList + 1}
		for _, n := range sizes {
			for _, m := range sizes {
				a := impl.Asm{Code: longer(right.Code, n), Maps: longer(right.Maps, m)}
				what := fmt.Sprint(n, " instructions and ", m, " maps of ", places)
				asmRightIs(t, what, p, a, n == places && m == places)
				if n == m {
					heldAsm(t, what, p, a)
				}
			}
		}
	}
	p := summing(t)
	right := cellCode(p, 0)
	asmRightIs(t, "no maps", p, impl.Asm{Code: right.Code}, false)
	asmRightIs(t, "no code", p, impl.Asm{Maps: right.Maps}, false)
	asmRightIs(t, "nothing", p, impl.Asm{}, false)
	asmRightIs(t, "empty lists alone", p, impl.Asm{Code: []impl.AsmIns{}, Maps: [][]impl.Val{}}, false)
}

// Code for another function of the same program is told apart by its places and slots alone.
func TestAsmOtherFunctions(t *testing.T) {
	for what, p := range asmPrograms(t) {
		for f := range int64(len(p.Funcs)) {
			for g := int64(-1); g <= int64(len(p.Funcs)); g++ {
				a := cellCode(p, f)
				a.Func = g
				right := heldAsm(t, what+", for another function", p, a)
				if f == g && !right {
					t.Errorf("code of function %d of %s is not right", f, what)
				}
			}
		}
	}
	p := threeFuncs()
	for f := range int64(3) {
		for g := range int64(3) {
			a := cellCode(p, f)
			a.Func = g
			asmRightIs(t, "code of one of three functions", p, a, f == g)
		}
	}
	ofNoFunction(t, func(t *testing.T, what string, p impl.Program, f int64) {
		a := cellCode(summing(t), 0)
		a.Func = f
		asmRightIs(t, what, p, a, false)
		asmRefused(t, what, p, asmTextOf(a), 0, impl.ErrForm)
	})
}

// Of a program that is not right no code is; its bytes are still read first.
func TestAsmOfWrongPrograms(t *testing.T) {
	code := cellCode(summing(t), 0)
	ofWrongPrograms(t, func(t *testing.T, what string, p impl.Program, f int64) {
		a := copyAsm(code)
		a.Func = f
		text := asmTextOf(a)
		asmRightIs(t, what, p, a, false)
		asmRefused(t, what, p, text, 0, impl.ErrForm)
		asmRefused(t, what+", and a byte more", p, text+"\x00", int64(len(text)), impl.ErrSyntax)
		asmRefused(t, what+", and a text of no byte", p, "", 0, impl.ErrShort)
		asmRefused(t, what+", and 61 places", p, "\x00\x7a", 1, impl.ErrForm)
		asmRefused(t, what+", and too long a text", p, strings.Repeat("\x00", impl.MaxBytes+1), 0, impl.ErrSize)
		asmRightIs(t, what+", and no code", p, impl.Asm{Func: f}, false)
		asmRefused(t, what+", and no places", p, bytesOf(f)+"\x00", 0, impl.ErrForm)
	})
}

// mixedAsm has each list there may be, with more than one in each.
func mixedAsm() impl.Asm {
	return impl.Asm{Func: 3,
		Code: []impl.AsmIns{
			withPre(asmIns(10, 1, 2, loc(3), con(4)), mov(5, loc(6)), mov(7, con(8))),
			withPre(asmIns(36, -1, 0, con(1), loc(2), con(3)), mov(9, con(-1))),
			nop(),
		},
		Maps: [][]impl.Val{vals(loc(1), con(2)), vals(impl.Val{}, loc(3), con(5)), nil}}
}

// asmChange is one thing that is another one.
type asmChange struct {
	what string
	do   func(a *impl.Asm)
}

func asmChanges() []asmChange {
	l := []asmChange{
		{"Func", func(a *impl.Asm) { a.Func = -3 }},
		{"one instruction less", func(a *impl.Asm) { a.Code = a.Code[:2] }},
		{"without the first instruction", func(a *impl.Asm) { a.Code = a.Code[1:] }},
		{"one instruction more", func(a *impl.Asm) { a.Code = append(a.Code, impl.AsmIns{}) }},
		{"no instructions", func(a *impl.Asm) { a.Code = nil }},
		{"two instructions changed over", func(a *impl.Asm) { a.Code[0], a.Code[1] = a.Code[1], a.Code[0] }},
		{"one map less", func(a *impl.Asm) { a.Maps = a.Maps[:2] }},
		{"without the first map", func(a *impl.Asm) { a.Maps = a.Maps[1:] }},
		{"one map more", func(a *impl.Asm) { a.Maps = append(a.Maps, nil) }},
		{"no maps", func(a *impl.Asm) { a.Maps = nil }},
		{"two maps changed over", func(a *impl.Asm) { a.Maps[0], a.Maps[1] = a.Maps[1], a.Maps[0] }},
		{"a none in an empty map", func(a *impl.Asm) { a.Maps[2] = vals(impl.Val{}) }},
		{"a none in an empty L", func(a *impl.Asm) { a.Code[2].L = vals(impl.Val{}) }},
		{"a zero move in an empty Pre", func(a *impl.Asm) { a.Code[2].Pre = []impl.Mov{{}} }},
	}
	for at := range 3 {
		l = append(l, asmChange{"Op", func(a *impl.Asm) { a.Code[at].Op++ }}, asmChange{"To", func(a *impl.Asm) { a.Code[at].To-- }},
			asmChange{"T", func(a *impl.Asm) { a.Code[at].T = 1 << 32 }}, asmChange{"To and T changed over", func(a *impl.Asm) { a.Code[at].To, a.Code[at].T = a.Code[at].T, a.Code[at].To }})
	}
	for at := range 2 {
		l = append(l, asmChange{"no Pre", func(a *impl.Asm) { a.Code[at].Pre = nil }},
			asmChange{"no L", func(a *impl.Asm) { a.Code[at].L = nil }},
			asmChange{"a map emptied", func(a *impl.Asm) { a.Maps[at] = nil }},
			asmChange{"one less in a map", func(a *impl.Asm) { a.Maps[at] = a.Maps[at][1:] }},
			asmChange{"one more in a map", func(a *impl.Asm) { a.Maps[at] = append(a.Maps[at], impl.Val{}) }},
			asmChange{"a kind in a map", func(a *impl.Asm) { a.Maps[at][1].Kind++ }},
			asmChange{"a number in a map", func(a *impl.Asm) { a.Maps[at][1].N-- }},
			asmChange{"a kind in L", func(a *impl.Asm) { a.Code[at].L[1].Kind-- }},
			asmChange{"a number in L", func(a *impl.Asm) { a.Code[at].L[1].N++ }},
			asmChange{"one less in L", func(a *impl.Asm) { a.Code[at].L = a.Code[at].L[:1] }},
			asmChange{"a Pre's To", func(a *impl.Asm) { a.Code[at].Pre[0].To++ }},
			asmChange{"a Pre's kind", func(a *impl.Asm) { a.Code[at].Pre[0].From.Kind = 0 }},
			asmChange{"a Pre's number", func(a *impl.Asm) { a.Code[at].Pre[0].From.N++ }},
			asmChange{"one more in Pre", func(a *impl.Asm) { a.Code[at].Pre = append(a.Code[at].Pre, impl.Mov{}) }})
	}
	return append(l, asmChange{"two moves changed over", func(a *impl.Asm) { slices.Reverse(a.Code[0].Pre) }},
		asmChange{"two of L changed over", func(a *impl.Asm) { slices.Reverse(a.Code[0].L) }},
		asmChange{"two of a map changed over", func(a *impl.Asm) { slices.Reverse(a.Maps[0]) }})
}

// AsmSame compares whatever it is given, right or not.
func TestAsmSame(t *testing.T) {
	asmSameIs(t, "of the same", mixedAsm(), mixedAsm(), true)
	asmSameIs(t, "of the zero ones", impl.Asm{}, impl.Asm{}, true)
	asmSameIs(t, "of empty lists and none", impl.Asm{Code: []impl.AsmIns{}, Maps: [][]impl.Val{}}, impl.Asm{}, true)
	bare := impl.Asm{Code: []impl.AsmIns{{}}, Maps: [][]impl.Val{nil}}
	full := impl.Asm{Code: []impl.AsmIns{{Pre: []impl.Mov{}, L: vals()}}, Maps: [][]impl.Val{{}}}
	asmSameIs(t, "of empty lists and none within", bare, full, true)
	asmSameIs(t, "of a zero instruction and none", impl.Asm{Code: []impl.AsmIns{{}}}, impl.Asm{}, false)
	asmSameIs(t, "of an empty map and none", impl.Asm{Maps: [][]impl.Val{{}}}, impl.Asm{}, false)
	a := mixedAsm()
	asmSameIs(t, "of one with itself", a, a, true)
	for _, c := range asmChanges() {
		b := mixedAsm()
		c.do(&b)
		if asmTold(b) == asmTold(mixedAsm()) {
			t.Errorf("%s changes nothing", c.what)
		}
		before := asmTold(b)
		asmSameIs(t, c.what, mixedAsm(), b, false)
		if asmTold(b) != before {
			t.Errorf("AsmSame, %s, changed what it was handed", c.what)
		}
		asmSameIs(t, c.what+", twice", copyAsm(b), b, true)
	}
	for _, n := range []int{impl.MaxList, impl.MaxList + 1, 1000} {
		long := func() impl.Asm {
			return impl.Asm{Code: make([]impl.AsmIns, n), Maps: [][]impl.Val{make([]impl.Val, n)}}
		}
		asmSameIs(t, "of long lists", long(), long(), true)
		other := long()
		other.Maps[0][n-1].N = 1
		asmSameIs(t, "of long lists, the last one another", long(), other, false)
		other = long()
		other.Code[n-1].L = vals(con(1))
		asmSameIs(t, "of long code, the last one another", long(), other, false)
	}
}

// thrownVal is a Val that may be, none too, or a number alone.
func thrownVal(d *dice, none bool) impl.Val {
	if none && d.below(4) == 0 {
		return impl.Val{}
	}
	if d.below(2) == 0 {
		return loc(int64(d.below(impl.MaxLocs)))
	}
	numbers := numberEdges()
	return con(numbers[d.below(len(numbers))])
}

func thrownVals(d *dice, n int64, none bool) []impl.Val {
	var l []impl.Val
	for range n {
		l = append(l, thrownVal(d, none))
	}
	return l
}

// thrownAsm is right code for a function of a right program: at each place that is reached any instruction that may stand there.
func thrownAsm(d *dice, p impl.Program, f int64) impl.Asm {
	a := impl.Asm{Func: f}
	forms := asmForms()
	for _, height := range impl.Heights(p, f) {
		if height == -1 {
			a.Code = append(a.Code, nop())
			a.Maps = append(a.Maps, nil)
			continue
		}
		form := forms[d.below(len(forms))]
		i := asmIns(form.op, -1, 0)
		takes := form.takes
		switch form.t {
		case "guard":
			i.T = int64(1 + d.below(2))
		case "place":
			i.T = int64(d.below(len(p.Funcs[f].Code)))
		case "function":
			i.T = int64(d.below(len(p.Funcs)))
			takes = p.Funcs[i.T].Args
		}
		if form.to == "loc" || form.to == "any" && d.below(3) > 0 {
			i.To = int64(d.below(impl.MaxLocs))
		}
		i.L = thrownVals(d, takes, false)
		for range max(0, d.below(26)-9) {
			i.Pre = append(i.Pre, mov(int64(d.below(impl.MaxLocs)), thrownVal(d, false)))
		}
		a.Code = append(a.Code, i)
		a.Maps = append(a.Maps, thrownVals(d, p.Funcs[f].Locals+height, true))
	}
	return a
}

// promiseThirteen, of right code: it comes back from its bytes, where these are no more than MaxBytes.
func promiseThirteen(t *testing.T, what string, p impl.Program, a impl.Asm) {
	t.Helper()
	asmRightIs(t, what, p, a, true)
	text := impl.AsmBytes(p, a)
	if len(text) > impl.MaxBytes {
		asmRefused(t, what, p, text, 0, impl.ErrSize)
		return
	}
	asmReadIs(t, what, p, text, impl.AsmOut{Asm: a})
	asmSameIs(t, what, impl.AsmRead(p, text).Asm, a, true)
}

// Promise 13.
func TestAsmComesBack(t *testing.T) {
	for what, p := range asmPrograms(t) {
		for f := range int64(len(p.Funcs)) {
			promiseThirteen(t, what, p, cellCode(p, f))
		}
	}
}

// Promise 13, of code that is thrown for programs that are thrown.
func TestThrownAsmComesBack(t *testing.T) {
	d := &dice{u: 13}
	said := opsSaid(t)
	ops := map[int64]int{}
	bare, most := 0, 0
	for range 400 {
		p := thrownRight(t, d, said)
		for f := range int64(len(p.Funcs)) {
			a := thrownAsm(d, p, f)
			promiseThirteen(t, "thrown code", p, a)
			for at, i := range a.Code {
				ops[i.Op]++
				if len(a.Maps[at]) == 0 && asmTold(impl.Asm{Code: a.Code[at : at+1]}) == asmTold(impl.Asm{Code: []impl.AsmIns{nop()}}) {
					bare++
				}
				if len(i.Pre) == 16 {
					most++
				}
			}
		}
	}
	for _, form := range asmForms() {
		if ops[form.op] < 100 {
			t.Errorf("op %d was thrown only %d times", form.op, ops[form.op])
		}
	}
	if bare < 100 || most < 100 {
		t.Errorf("only %d places that are not reached, and %d with 16 moves", bare, most)
	}
}

// numberOfBytes is a number whose bytes are so many.
func numberOfBytes(n int) int64 {
	if n == 1 {
		return 0
	}
	return 1 << (7*(n-1) - 1)
}

// asmOfSize is right code of that many bytes.
func asmOfSize(t *testing.T, size int) (impl.Program, impl.Asm) {
	t.Helper()
	p := programOf(funcOf(t, 4, 8, times(8, "push 1")+times(51, "not")+"ret"))
	verifyIs(t, "a long program", p, impl.VerifyOut{})
	a := cellCode(p, 0)
	for at := range a.Code {
		a.Code[at].Pre = slices.Repeat([]impl.Mov{mov(9, con(numberOfBytes(10)))}, 16)
		a.Maps[at] = slices.Repeat(vals(con(numberOfBytes(10))), len(a.Maps[at]))
	}
	over := len(asmTextOf(a)) - size
	for at := range a.Code {
		for k := range a.Code[at].Pre {
			less := min(over, 9)
			a.Code[at].Pre[k].From.N = numberOfBytes(10 - less)
			over -= less
		}
	}
	if over != 0 || len(asmTextOf(a)) != size {
		t.Fatalf("code of %d bytes has %d", size, len(asmTextOf(a)))
	}
	return p, a
}

// Promise 13 at MaxBytes: code that has more has bytes, but is not read back.
func TestAsmOfMostBytes(t *testing.T) {
	for _, size := range []int{impl.MaxBytes - 1, impl.MaxBytes, impl.MaxBytes + 1, impl.MaxBytes + 100, 20500} {
		p, a := asmOfSize(t, size)
		promiseThirteen(t, fmt.Sprint("code of ", size, " bytes"), p, a)
		text := impl.AsmBytes(p, a)
		if len(text) != size {
			t.Errorf("code of %d bytes has %d", size, len(text))
		}
		want := impl.AsmOut{Asm: a}
		if size > impl.MaxBytes {
			want = impl.AsmOut{Code: impl.ErrSize}
		}
		asmReadIs(t, fmt.Sprint(size, " bytes"), p, text, want)
	}
}

func TestAsmReadSizes(t *testing.T) {
	for what, p := range asmPrograms(t) {
		text := asmTextOf(cellCode(p, 0))
		padded := text + strings.Repeat("\x00", impl.MaxBytes-len(text))
		asmRefused(t, what+" with just MaxBytes", p, padded, int64(len(text)), impl.ErrSyntax)
		asmRefused(t, what+" with one more than MaxBytes", p, padded+"\x00", 0, impl.ErrSize)
		asmRefused(t, what+" with many more than MaxBytes", p, padded+padded, 0, impl.ErrSize)
	}
	p := summing(t)
	for _, one := range []string{"x", "\x80", "\xff", "\x00", "\x02"} {
		full := strings.Repeat(one, impl.MaxBytes)
		asmReadIs(t, "MaxBytes bytes", p, full, asmReadSaid(p, true, full))
		asmRefused(t, "one more than MaxBytes", p, full+one, 0, impl.ErrSize)
	}
}

// readPrograms are programs with code whose bytes are looked at one by one.
func readPrograms(t *testing.T) map[string]struct {
	p impl.Program
	a impl.Asm
} {
	t.Helper()
	l := map[string]struct {
		p impl.Program
		a impl.Asm
	}{}
	put := func(what string, p impl.Program, a impl.Asm) {
		asmRightIs(t, what, p, a, true)
		l[what] = struct {
			p impl.Program
			a impl.Asm
		}{p, a}
	}
	p := sixFuncs(t)
	a := cellCode(p, 0)
	a.Code[3] = withPre(asmIns(impl.OpCall, 0, 5, con(math.MinInt64), loc(21), con(300), con(0)), mov(0, con(math.MaxInt64)), mov(21, loc(6)))
	a.Code[4] = asmIns(impl.AsmGuard, -1, 2, loc(9))
	put("code of each kind", p, a)
	put("a loop's code", summing(t), cellCode(summing(t), 0))
	put("the least code", programOf(funcOf(t, 0, 0, "jump 0")), cellCode(programOf(funcOf(t, 0, 0, "jump 0")), 0))
	d := &dice{u: 14}
	put("thrown code", p, thrownAsm(d, p, 0))
	put("code of the last function", p, thrownAsm(d, p, 5))
	return l
}

// A text that breaks off, at each byte: the number that is not whole is told, whatever is ahead.
func TestAsmBreaksOff(t *testing.T) {
	for what, c := range readPrograms(t) {
		texts := asmTexts(asmParts(c.a))
		at := 0
		for k, part := range texts {
			for in := range len(part) {
				text := textOf(texts)[:at+in]
				asmRefused(t, fmt.Sprint("the first ", len(text), " bytes of ", what), c.p, text, int64(at), impl.ErrShort)
			}
			for _, size := range []int{0, 1, 2, 9} {
				asmRefused(t, fmt.Sprint("a number that breaks off at part ", k, " of ", what), c.p, textOf(texts[:k])+strings.Repeat("\x81", size), int64(at), impl.ErrShort)
			}
			at += len(part)
		}
	}
}

// A number that is not put as PutNum puts it, at each part, whatever is behind.
func TestAsmNumbers(t *testing.T) {
	for what, c := range readPrograms(t) {
		texts := asmTexts(asmParts(c.a))
		for k, part := range texts {
			ahead, behind, at := textOf(texts[:k]), textOf(texts[k+1:]), placeOf(texts, k)
			name := fmt.Sprint("part ", k, " of ", what)
			for _, wrong := range wrongNumbers() {
				asmRefused(t, "a wrong number at "+name, c.p, ahead+wrong+behind, at, impl.ErrSyntax)
				asmRefused(t, "a wrong number, and no more, at "+name, c.p, ahead+wrong, at, impl.ErrSyntax)
			}
			wider := part[:len(part)-1] + string([]byte{part[len(part)-1] | 128}) + "\x00"
			if len(wider) <= 10 {
				asmRefused(t, "the same number in one byte more at "+name, c.p, ahead+wider+behind, at, impl.ErrSyntax)
			}
		}
	}
}

// Each number that says how many there are, below its bound, at it, and above it.
func TestAsmCounts(t *testing.T) {
	for what, c := range readPrograms(t) {
		parts := asmParts(c.a)
		texts := asmTexts(parts)
		for k, part := range parts {
			if part.most == -1 {
				continue
			}
			ahead, at := textOf(texts[:k]), placeOf(texts, k)
			for _, n := range nums(math.MinInt64, -1<<32, -256, -61, -17, -2, -1, part.most+1, part.most+2, 255, 256, 400, 401, 1<<32, 1<<32+1, math.MaxInt64) {
				name := fmt.Sprint(what, " that says ", n, " at part ", k)
				for _, behind := range []string{textOf(texts[k+1:]), "", "\x80", "\x80\x00", strings.Repeat("\x00", 1000)} {
					asmRefused(t, name, c.p, ahead+bytesOf(n)+behind, at, impl.ErrForm)
				}
			}
			for n := range part.most + 1 {
				name := fmt.Sprint(what, " that says ", n, " at part ", k)
				for _, behind := range []string{textOf(texts[k+1:]), strings.Repeat("\x00", 800)} {
					text := ahead + bytesOf(n) + behind
					asmReadIs(t, name, c.p, text, asmReadSaid(c.p, true, text))
				}
				if n > 0 {
					asmRefused(t, name+", and ends there", c.p, ahead+bytesOf(n), at+int64(len(bytesOf(n))), impl.ErrShort)
				}
			}
		}
	}
}

// aheadOf is how many bytes stand ahead of a place of code of few enough places that one byte says how many.
func aheadOf(a impl.Asm, at int) int64 {
	return int64(len(asmTextOf(impl.Asm{Func: a.Func, Code: a.Code[:at], Maps: a.Maps[:at]})))
}

// What says 0, 60 or 61 places, and 16 or 17 of all others, with just so much behind it.
func TestAsmWholeCounts(t *testing.T) {
	p := programOf(funcOf(t, 4, 8, times(8, "push 1")+times(51, "jump 8")+"jump 8"))
	for _, n := range []int{0, 1, 59, 60, 61} {
		a := impl.Asm{Code: slices.Repeat([]impl.AsmIns{nop()}, n), Maps: make([][]impl.Val, n)}
		want := impl.AsmOut{Code: impl.ErrForm}
		if n == 61 {
			want.At = 1
		}
		asmReadIs(t, fmt.Sprint(n, " places"), p, asmTextOf(a), want)
	}
	right := cellCode(p, 0)
	asmReadIs(t, "60 places that are right", p, asmTextOf(right), impl.AsmOut{Asm: right})
	for _, n := range []int{15, 16, 17, 18} {
		a := copyAsm(right)
		a.Code[3].Pre = slices.Repeat([]impl.Mov{mov(1, con(2))}, n)
		want := impl.AsmOut{Asm: a}
		ahead := aheadOf(a, 3)
		if n > 16 {
			want = impl.AsmOut{At: ahead, Code: impl.ErrForm}
		}
		asmReadIs(t, fmt.Sprint(n, " moves"), p, asmTextOf(a), want)
		a = copyAsm(right)
		a.Code[3].L = slices.Repeat(vals(con(1)), n)
		want = impl.AsmOut{Code: impl.ErrForm}
		if n > 16 {
			want.At = ahead + 4
		}
		asmReadIs(t, fmt.Sprint(n, " of L"), p, asmTextOf(a), want)
		a = copyAsm(right)
		a.Code[8] = nop()
		a.Maps[8] = slices.Repeat(vals(con(1)), n)
		want = impl.AsmOut{Code: impl.ErrForm}
		if n == 16 {
			want = impl.AsmOut{Asm: a}
		}
		if n > 16 {
			want.At = aheadOf(a, 8) + 5
		}
		asmReadIs(t, fmt.Sprint(n, " in a map"), p, asmTextOf(a), want)
	}
}

func TestAsmBytesLeft(t *testing.T) {
	for what, c := range readPrograms(t) {
		text := asmTextOf(c.a)
		wrong := copyAsm(c.a)
		wrong.Func = 77
		for _, more := range []string{"\x00", "\x80", "\n", "\xff\xff", text, strings.Repeat("\xff", 12)} {
			asmRefused(t, what+" with bytes behind it", c.p, text+more, int64(len(text)), impl.ErrSyntax)
			bytes := asmTextOf(wrong)
			asmRefused(t, what+", not right, with bytes behind it", c.p, bytes+more, int64(len(bytes)), impl.ErrSyntax)
		}
		asmRefused(t, what+", not right", c.p, asmTextOf(wrong), 0, impl.ErrForm)
	}
}

// asmEdit is one thing that is wrong: at a part, which has another text then, and whether the bytes end with it.
// What stands behind the last part is a part more. The code is 0, if all is read, but is not right.
type asmEdit struct {
	what string
	part int
	text string
	ends bool
	code int64
}

func asmEdits(parts []asmPart) []asmEdit {
	// Op stands behind Func, how many places and Pre there are, and three numbers of one move.
	l := []asmEdit{{"no such function", 0, "\x0e", false, 0}, {"no such op", 6, "\x0e", false, 0}, {"a byte left", len(parts), "\x00", false, impl.ErrSyntax}}
	for k, part := range parts[:30] {
		l = append(l, asmEdit{"a number too long", k, "\x82\x00", false, impl.ErrSyntax}, asmEdit{"a number that breaks off", k, "\x82", true, impl.ErrShort})
		if part.most >= 0 {
			l = append(l, asmEdit{"too many", k, bytesOf(part.most + 1), false, impl.ErrForm}, asmEdit{"too few", k, "\x01", false, impl.ErrForm})
		}
	}
	return l
}

// Of two faults the first one that is read is told; that the whole is not right is told last.
func TestAsmFaultsTogether(t *testing.T) {
	p := summing(t)
	a := cellCode(p, 0)
	a.Code[0].Pre = []impl.Mov{mov(1, con(2))}
	a.Code[0].Op, a.Code[0].To, a.Code[0].L = impl.OpRet, -1, vals(con(1))
	asmRightIs(t, "code of which much is wrong later", p, a, true)
	all := asmTexts(asmParts(a))
	for _, x := range asmEdits(asmParts(a)) {
		for _, y := range asmEdits(asmParts(a)) {
			if x.part == y.part && x != y {
				continue
			}
			first := x
			if x.code == 0 || y.code != 0 && y.part < x.part {
				first = y
			}
			texts := append(slices.Clone(all), "")
			end := len(texts)
			for _, e := range []asmEdit{x, y} {
				texts[e.part] = e.text
				if e.ends {
					end = min(end, e.part+1)
				}
			}
			want := impl.AsmOut{Code: impl.ErrForm}
			if first.code != 0 {
				want = impl.AsmOut{At: placeOf(texts, first.part), Code: first.code}
			}
			asmReadIs(t, fmt.Sprint(x.what, " at ", x.part, " with ", y.what, " at ", y.part), p, textOf(texts[:end]), want)
		}
	}
}

// readAlone: what is read from a text has that text as its bytes, and no other one.
func readAlone(t *testing.T, what string, p impl.Program, text string) impl.AsmOut {
	t.Helper()
	want := asmReadSaid(p, true, text)
	asmReadIs(t, what, p, text, want)
	if want.Code == impl.OK && impl.AsmBytes(p, want.Asm) != text {
		t.Errorf("%s: %q is read as code whose bytes are others", what, text)
	}
	return want
}

// Each byte another one, gone, or twice: it is refused, or read as other code.
func TestAsmOtherBytes(t *testing.T) {
	for what, c := range readPrograms(t) {
		text := asmTextOf(c.a)
		if len(text) > 400 {
			text = text[:400]
		}
		others := 0
		for at := range len(text) {
			for b := 0; b < 256; b += 1 + at%5 {
				other := text[:at] + string([]byte{byte(b)}) + text[at+1:]
				out := readAlone(t, what+" with another byte", c.p, other)
				if out.Code == impl.OK && impl.AsmSame(out.Asm, c.a) != (other == text) {
					t.Errorf("%s with the byte %d at %d is read as the same code", what, b, at)
				}
				if out.Code == impl.OK {
					others++
				}
			}
			readAlone(t, what+" without a byte", c.p, text[:at]+text[at+1:])
			readAlone(t, what+" with a byte twice", c.p, text[:at]+text[at:at+1]+text[at:])
		}
		if len(text) < 400 && others < 3 {
			t.Errorf("%s: no other byte makes other code", what)
		}
	}
}

// Some numbers of right code are thrown anew: all that is told is then told by what was read.
func TestThrownAsmTexts(t *testing.T) {
	d := &dice{u: 15}
	said := opsSaid(t)
	edges := numberEdges()
	seen := map[int64]int{}
	for range 800 {
		p := thrownRight(t, d, said)
		f := int64(d.below(len(p.Funcs)))
		for range 8 {
			a := thrownAsm(d, p, f)
			texts := asmTexts(asmParts(a))
			for range 1 + d.below(3) {
				k := d.below(len(texts))
				texts[k] = bytesOf(int64(d.below(6)) - 1)
				if d.below(3) == 0 {
					texts[k] = bytesOf(edges[d.below(len(edges))])
				}
			}
			text := textOf(texts)
			if d.below(6) == 0 {
				text = text[:d.below(len(text))]
			}
			if len(text) > impl.MaxBytes {
				continue
			}
			seen[readAlone(t, "a thrown text", p, text).Code]++
		}
	}
	for _, code := range nums(impl.OK, impl.ErrForm, impl.ErrSyntax, impl.ErrShort) {
		if seen[code] < 50 {
			t.Errorf("only %d thrown texts with code %d were looked at", seen[code], code)
		}
	}
}

// One field of right code is thrown anew.
func TestThrownAsmFields(t *testing.T) {
	d := &dice{u: 16}
	said := opsSaid(t)
	edges := numberEdges()
	right := 0
	wrong := 0
	for range 400 {
		p := thrownRight(t, d, said)
		for range 8 {
			a := thrownAsm(d, p, int64(d.below(len(p.Funcs))))
			at := d.below(len(a.Code))
			n := edges[d.below(len(edges))]
			i := &a.Code[at]
			switch d.below(8) {
			case 0:
				i.To = n
			case 1:
				i.T = int64(d.below(8)) - 1
			case 2:
				i.Op = int64(d.below(42)) - 2
			case 3:
				i.L = append(i.L, thrownVal(d, true))
			case 4:
				i.Pre = append(i.Pre, mov(n, thrownVal(d, true)))
			case 5:
				a.Maps[at] = append(a.Maps[at], thrownVal(d, true))
			case 6:
				for k := range a.Maps[at] {
					a.Maps[at][k] = impl.Val{Kind: int64(d.below(4)), N: n}
				}
			case 7:
				for k := range i.L {
					i.L[k] = impl.Val{Kind: int64(d.below(4)), N: n}
				}
			}
			if heldAsm(t, "code of which one field is thrown", p, a) {
				right++
			} else {
				wrong++
			}
		}
	}
	if right < 200 || wrong < 200 {
		t.Errorf("%d were right, %d were not", right, wrong)
	}
}

// What is read has lists of its own: none of them grows into another one, and what was handed in before stays.
func TestAsmKeepsNothing(t *testing.T) {
	for what, c := range readPrograms(t) {
		program, code := copyProgram(c.p), copyAsm(c.a)
		text := impl.AsmBytes(c.p, c.a)
		got, again := impl.AsmRead(c.p, text).Asm, impl.AsmRead(c.p, text).Asm
		for at, i := range got.Code {
			_ = append(i.Pre, mov(-7, con(-7)))
			_ = append(i.L, con(-7))
			_ = append(got.Maps[at], con(-7))
		}
		_ = append(got.Code, impl.AsmIns{Op: -7})
		_ = append(got.Maps, vals(con(-7)))
		asmSameIs(t, what+", whose lists grow", got, code, true)
		for at := range got.Code {
			for k := range got.Code[at].L {
				got.Code[at].L[k].N++
			}
			for k := range got.Code[at].Pre {
				got.Code[at].Pre[k].To++
			}
		}
		if asmTold(impl.Asm{Maps: got.Maps}) != asmTold(impl.Asm{Maps: code.Maps}) {
			t.Errorf("%s: a map shares memory with another list", what)
		}
		spoilAsm(got)
		asmSameIs(t, what+", read ahead", again, code, true)
		asmRefused(t, what+", broken off", c.p, text[:len(text)-1], lastPart(c.a), impl.ErrShort)
		asmReadIs(t, what+", read again", c.p, text, impl.AsmOut{Asm: code})
		samePrograms(t, what, c.p, program, true)
		asmSameIs(t, what+", handed in", c.a, code, true)
	}
}

// lastPart is where the last number of code's bytes begins.
func lastPart(a impl.Asm) int64 {
	texts := asmTexts(asmParts(a))
	return placeOf(texts, len(texts)-1)
}

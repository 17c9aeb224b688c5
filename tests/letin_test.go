package tests

import (
	"slices"
	"testing"

	"loop.example/g00219/impl"
)

// letThrow throws code that is let in for a function of a right program, place by place, as it knows where each value stands.
type letThrow struct {
	d       *dice
	said    map[int64]opSaid
	p       impl.Program
	a       impl.Asm
	heights []int64
	live    []int64
	joins   map[int64]int
	// The first locs are homes, one for each slot that there can be; those behind them are nobody's.
	locs []int64
	vals []impl.Val
	pre  []impl.Mov
}

// thrownLocs are all locs in a thrown order.
func thrownLocs(d *dice) []int64 {
	var l []int64
	for n := range int64(impl.MaxLocs) {
		l = slices.Insert(l, d.below(len(l)+1), n)
	}
	return l
}

// joinsOf are the places at which several ways may come together: the first one, and those to which a reached jump goes.
func joinsOf(p impl.Program, f int64, heights []int64) map[int64]int {
	joins := map[int64]int{0: 1}
	for at, i := range p.Funcs[f].Code {
		if heights[at] != -1 && (i.Op == impl.OpJump || i.Op == impl.OpJz) {
			joins[i.A]++
		}
	}
	return joins
}

func thrownLetIn(d *dice, said map[int64]opSaid, p impl.Program, f int64) impl.Asm {
	w := &letThrow{d: d, said: said, p: p, a: impl.Asm{Func: f}, heights: impl.Heights(p, f), live: impl.Live(p, f), locs: thrownLocs(d)}
	w.joins = joinsOf(p, f, w.heights)
	for at := range int64(len(w.heights)) {
		w.place(at)
	}
	return w.a
}

func (w *letThrow) liveAt(at int64, slot int64) bool {
	return w.live[at]>>slot&1 == 1
}

func (w *letThrow) home(slot int64) impl.Val {
	return loc(w.locs[slot])
}

// unused is a loc at which no slot stands; there are more locs than slots.
func (w *letThrow) unused() impl.Val {
	for {
		if v := loc(int64(w.d.below(impl.MaxLocs))); !slices.Contains(w.vals, v) {
			return v
		}
	}
}

// spare is a loc that is nobody's home, if no slot stands there.
func (w *letThrow) spare() (impl.Val, bool) {
	v := loc(w.locs[impl.MaxLocals+impl.MaxStack+w.d.below(impl.MaxLocs-impl.MaxLocals-impl.MaxStack)])
	return v, !slices.Contains(w.vals, v)
}

// free moves away what stands at a home that is not its own. Only slots with a greater number than the one whose home it is
// stand there, so that this ends.
func (w *letThrow) free(v impl.Val) {
	for slot, other := range w.vals {
		if other == v && other != w.home(int64(slot)) {
			w.free(w.home(int64(slot)))
			w.move(int64(slot))
		}
	}
}

func (w *letThrow) move(slot int64) {
	w.pre = append(w.pre, mov(w.locs[slot], w.vals[slot]))
	w.vals[slot] = w.home(slot)
}

func (w *letThrow) settle(slot int64) {
	if w.vals[slot] != w.home(slot) {
		w.free(w.home(slot))
		w.move(slot)
	}
}

// settleAll settles the slots below that number that are live at a place.
func (w *letThrow) settleAll(at int64, below int64) {
	for slot := range below {
		if w.liveAt(at, slot) {
			w.settle(slot)
		}
	}
}

// place puts what stands at a place, and the instruction.
func (w *letThrow) place(at int64) {
	if w.heights[at] == -1 {
		w.a.Code = append(w.a.Code, nop())
		w.a.Maps = append(w.a.Maps, nil)
		return
	}
	slots := w.p.Funcs[w.a.Func].Locals + w.heights[at]
	if w.joins[at] > 0 {
		w.vals = make([]impl.Val, slots)
		for slot := range slots {
			if w.liveAt(at, slot) {
				w.vals[slot] = w.home(slot)
			}
		}
		if at == 0 && w.joins[0] == 1 {
			w.begin()
		}
	}
	w.a.Maps = append(w.a.Maps, append(vals(), w.vals...))
	w.pre = nil
	if w.d.below(6) == 0 {
		// A move that nobody asks for.
		w.pre = append(w.pre, mov(w.unused().N, thrownVal(w.d, false)))
	}
	i := w.ins(at, slots)
	i.Pre = w.pre
	w.a.Code = append(w.a.Code, i)
}

// begin: if no jump comes back, a local that is none of the Args may be known to be nought, and one for which nobody asks may stand somewhere.
func (w *letThrow) begin() {
	for local := range w.p.Funcs[w.a.Func].Locals {
		switch w.d.below(3) {
		case 0:
			w.vals[local] = w.home(local)
		case 1:
			if local >= w.p.Funcs[w.a.Func].Args {
				w.vals[local] = con(0)
			}
		}
	}
}

func (w *letThrow) ins(at int64, slots int64) impl.AsmIns {
	i := w.p.Funcs[w.a.Func].Code[at]
	takes, puts := stackOf(w.said, w.p, i)
	low := slots - takes
	switch i.Op {
	case impl.OpRet:
		return asmIns(i.Op, -1, 0, w.vals[low])
	case impl.OpJump, impl.OpJz:
		return w.jump(at, i, low)
	}
	joined := w.joins[at+1] > 0
	written := low
	if i.Op == impl.OpStore {
		written = i.A
	}
	if joined {
		// The slot that is written is not settled ahead, as it is another one behind.
		for slot := range low {
			if w.liveAt(at+1, slot) && slot != written {
				w.settle(slot)
			}
		}
	}
	var x impl.AsmIns
	switch i.Op {
	case impl.OpPush:
		x = w.known(at, low, joined, func() impl.Val { return con(i.A) })
	case impl.OpLoad:
		x = w.known(at, low, joined, func() impl.Val { return w.vals[i.A] })
	case impl.OpStore:
		x = w.store(at, i.A, low, joined)
	case impl.OpDup:
		if joined && w.liveAt(at+1, low) {
			w.settle(low)
		}
		x = w.known(at, low+1, joined, func() impl.Val { return w.vals[low] })
	case impl.OpPop:
		x = w.quiet()
		w.vals = w.vals[:low]
	default:
		x = w.same(at, i, low, puts, joined)
	}
	w.forget(at + 1)
	return x
}

// forget: of a slot that is not asked for it is not kept where it stands, or it is, as long as nothing else is put there.
func (w *letThrow) forget(at int64) {
	for slot := range w.vals {
		if !w.liveAt(at, int64(slot)) && (w.joins[at] > 0 || w.d.below(3) > 0) {
			w.vals[slot] = impl.Val{}
		}
	}
}

// quiet is an instruction that does nothing, or moves something where no slot stands.
func (w *letThrow) quiet() impl.AsmIns {
	if w.d.below(5) > 0 {
		return nop()
	}
	return asmIns(impl.AsmMove, w.unused().N, 0, thrownVal(w.d, false))
}

// put is where a new value of a slot is put: at its home, at a loc where nobody stands, or nowhere, if nobody asks for it.
func (w *letThrow) put(at int64, slot int64, joined bool) impl.Val {
	if !w.liveAt(at+1, slot) && w.d.below(2) == 0 {
		return impl.Val{}
	}
	if v, ok := w.spare(); ok && !joined && w.d.below(4) == 0 {
		return v
	}
	if slot < int64(len(w.vals)) {
		// Its own value is another one behind this instruction, and is not asked for.
		was := w.vals[slot]
		w.vals[slot] = impl.Val{}
		w.free(w.home(slot))
		w.vals[slot] = was
	} else {
		w.free(w.home(slot))
	}
	return w.home(slot)
}

// known puts a new slot that has what stands where from says, which may be moved away meanwhile.
func (w *letThrow) known(at int64, slot int64, joined bool, from func() impl.Val) impl.AsmIns {
	if w.d.below(2) == 0 && (!joined || !w.liveAt(at+1, slot)) {
		w.vals = append(w.vals, from())
		return w.quiet()
	}
	to := w.put(at, slot, joined)
	v := from()
	w.vals = append(w.vals, to)
	if to == (impl.Val{}) {
		return w.quiet()
	}
	return asmIns(impl.AsmMove, to.N, 0, v)
}

func (w *letThrow) store(at int64, local int64, low int64, joined bool) impl.AsmIns {
	if v := w.vals[low]; v.Kind == impl.ValConst && w.d.below(2) == 0 && (!joined || !w.liveAt(at+1, local)) {
		w.vals = w.vals[:low]
		w.vals[local] = v
		return w.quiet()
	}
	to := w.put(at, local, joined)
	v := w.vals[low]
	w.vals = w.vals[:low]
	w.vals[local] = to
	if to == (impl.Val{}) {
		return w.quiet()
	}
	return asmIns(impl.AsmMove, to.N, 0, v)
}

// numbersOf are the numbers of Vals, if they all are such.
func numbersOf(l []impl.Val) ([]int64, bool) {
	var numbers []int64
	for _, v := range l {
		if v.Kind != impl.ValConst {
			return nil, false
		}
		numbers = append(numbers, v.N)
	}
	return numbers, true
}

// resultSaid is the number that an op of arithmetic has of numbers, if it has one.
func resultSaid(op int64, l []impl.Val) (int64, bool) {
	numbers, known := numbersOf(l)
	if !known || op < impl.OpAdd || op > impl.OpWord {
		return 0, false
	}
	if op >= impl.OpNeg {
		return wantUnary(op, numbers[0]), true
	}
	if (op == impl.OpDiv || op == impl.OpRem) && numbers[1] == 0 {
		return 0, false
	}
	return wantBinary(op, numbers[0], numbers[1]), true
}

// same is the same op of what is taken, or what it comes to, if that is known.
func (w *letThrow) same(at int64, i impl.Ins, low int64, puts int64, joined bool) impl.AsmIns {
	n, known := resultSaid(i.Op, w.vals[low:])
	if known && w.d.below(2) == 0 && (!joined || !w.liveAt(at+1, low)) {
		w.vals = append(w.vals[:low], con(n))
		return w.quiet()
	}
	var to impl.Val
	if puts > 0 {
		to = w.put(at, low, joined)
	}
	x := asmIns(i.Op, -1, i.A, append(vals(), w.vals[low:]...)...)
	w.vals = w.vals[:low]
	if puts == 0 {
		return x
	}
	if to.Kind == impl.ValLoc {
		x.To = to.N
	}
	if known && to.Kind == impl.ValLoc && w.d.below(2) == 0 {
		x = asmIns(impl.AsmMove, to.N, 0, con(n))
	}
	if known && w.d.below(3) == 0 && !joined {
		// It stands at To, and is known all the same.
		to = con(n)
	}
	w.vals = append(w.vals, to)
	return x
}

// jump puts what is asked for at the places to which it goes at its home.
func (w *letThrow) jump(at int64, i impl.Ins, low int64) impl.AsmIns {
	w.settleAll(i.A, low)
	if i.Op == impl.OpJump {
		return asmIns(i.Op, -1, i.A)
	}
	if w.joins[at+1] > 0 {
		w.settleAll(at+1, low)
	}
	v := w.vals[low]
	w.vals = w.vals[:low]
	w.forget(at + 1)
	sure := []impl.AsmIns{asmIns(i.Op, -1, i.A, v), asmIns(impl.AsmGuard, -1, int64(1+w.d.below(2)), v)}
	switch {
	case v.Kind == impl.ValConst && v.N == 0:
		sure = append(sure, asmIns(impl.OpJump, -1, i.A))
	case v.Kind == impl.ValConst:
		sure = append(sure, nop())
	}
	return sure[w.d.below(len(sure))]
}

// fewMoves: code that was thrown may have more Pre than there may be at one place.
func fewMoves(a impl.Asm) bool {
	for _, i := range a.Code {
		if len(i.Pre) > 16 {
			return false
		}
	}
	return true
}

// letInThrown is thrown code for a function of a thrown program, both right, and let in.
func letInThrown(t *testing.T, d *dice, ops []opSaid) (impl.Program, impl.Asm) {
	t.Helper()
	for {
		p := thrownRight(t, d, ops)
		a := thrownLetIn(d, saidOf(t), p, int64(d.below(len(p.Funcs))))
		if fewMoves(a) {
			return p, a
		}
	}
}

package tests

import (
	"math"
	"math/big"
	"testing"

	"loop.example/g00219/impl"
)

const firstBinary, lastBinary = impl.OpAdd, impl.OpSame
const firstUnary, lastUnary = impl.OpNeg, impl.OpWord

// edgeNumbers has the ends of 8, 16, 32, 64 bits with and without a sign, one beyond each, the shifts' ends, and some between.
func edgeNumbers() []int64 {
	l := []int64{0, 1, -1, 2, -2, 3, -3, 5, -5, 7, -7, 10, -10, 62, 63, 64, 65, -62, -63, -64, -65, 127, 128, 1000003, -1000003,
		math.MaxInt64, math.MaxInt64 - 1, math.MinInt64, math.MinInt64 + 1, math.MinInt64 / 2, math.MinInt64 / 3}
	for _, bits := range []int{7, 8, 15, 16, 31, 32, 62} {
		n := int64(1) << bits
		l = append(l, n, n-1, n+1, -n, -n-1, -n+1)
	}
	x := uint64(7)
	for range 40 {
		x = x*6364136223846793005 + 1442695040888963407
		l = append(l, int64(x), int64(x>>(x>>58)), -int64(x>>(x>>58)))
	}
	return l
}

// within64 takes a whole number modulo 2^64, as a number with a sign.
func within64(n *big.Int) int64 {
	m := new(big.Int).And(n, new(big.Int).SetUint64(math.MaxUint64))
	return int64(m.Uint64())
}

func yes(b bool) int64 {
	if b {
		return 1
	}
	return 0
}

// wantBinary is worked out with whole numbers of any size; b is not 0 where it divides.
func wantBinary(op int64, a int64, b int64) int64 {
	x, y, z := big.NewInt(a), big.NewInt(b), new(big.Int)
	two := new(big.Int).Lsh(big.NewInt(1), uint(((b%64)+64)%64))
	switch op {
	case impl.OpAdd:
		z.Add(x, y)
	case impl.OpSub:
		z.Sub(x, y)
	case impl.OpMul:
		z.Mul(x, y)
	case impl.OpDiv:
		z.Quo(x, y)
	case impl.OpRem:
		z.Rem(x, y)
	case impl.OpAnd:
		z.And(x, y)
	case impl.OpOr:
		z.Or(x, y)
	case impl.OpXor:
		z.Xor(x, y)
	case impl.OpShl:
		z.Mul(x, two)
	case impl.OpShr:
		z.Div(x, two) // rounds down, as the divisor is above 0
	case impl.OpUshr:
		z.Div(new(big.Int).SetUint64(uint64(a)), two)
	case impl.OpLess:
		return yes(x.Cmp(y) < 0)
	case impl.OpAtmost:
		return yes(x.Cmp(y) <= 0)
	case impl.OpSame:
		return yes(x.Cmp(y) == 0)
	}
	return within64(z)
}

// narrowed is the number of that many bits, with a sign or without, that is the same modulo 2^bits.
func narrowed(a int64, bits uint, sign bool) int64 {
	size := new(big.Int).Lsh(big.NewInt(1), bits)
	z := new(big.Int).Mod(big.NewInt(a), size)
	if sign && z.Bit(int(bits-1)) == 1 {
		z.Sub(z, size)
	}
	return z.Int64()
}

func wantUnary(op int64, a int64) int64 {
	switch op {
	case impl.OpNeg:
		return within64(new(big.Int).Neg(big.NewInt(a)))
	case impl.OpNot:
		return within64(new(big.Int).Not(big.NewInt(a)))
	case impl.OpByte:
		return narrowed(a, 8, true)
	case impl.OpShort:
		return narrowed(a, 16, true)
	case impl.OpInt:
		return narrowed(a, 32, true)
	}
	return narrowed(a, 32, false)
}

func wantFits(n int64, bits int64) bool {
	if bits < 1 || bits > 64 {
		return false
	}
	half := new(big.Int).Lsh(big.NewInt(1), uint(bits-1))
	x := big.NewInt(n)
	return x.Cmp(new(big.Int).Neg(half)) >= 0 && x.Cmp(half) < 0
}

func binaryIs(t *testing.T, op int64, a int64, b int64, want impl.Value) {
	t.Helper()
	if got := impl.Binary(op, a, b); got != want {
		t.Errorf("Binary(%d, %d, %d): got %+v, want %+v", op, a, b, got, want)
	}
}

func unaryIs(t *testing.T, op int64, a int64, want impl.Value) {
	t.Helper()
	if got := impl.Unary(op, a); got != want {
		t.Errorf("Unary(%d, %d): got %+v, want %+v", op, a, got, want)
	}
}

// number is a Binary that does not trap.
func number(t *testing.T, op int64, a int64, b int64) int64 {
	t.Helper()
	v := impl.Binary(op, a, b)
	if v.Trap != 0 {
		t.Errorf("Binary(%d, %d, %d): got Trap %d", op, a, b, v.Trap)
	}
	return v.N
}

func TestBinaryNumbers(t *testing.T) {
	l := edgeNumbers()
	for op := int64(firstBinary); op <= lastBinary; op++ {
		for _, a := range l {
			for _, b := range l {
				if (op == impl.OpDiv || op == impl.OpRem) && b == 0 {
					binaryIs(t, op, a, b, impl.Value{Trap: impl.TrapZero})
					continue
				}
				binaryIs(t, op, a, b, impl.Value{N: wantBinary(op, a, b)})
			}
		}
	}
}

// These are written out by hand, so that they lean on no other way to work them out.
func TestBinaryByHand(t *testing.T) {
	for _, c := range []struct{ op, a, b, n int64 }{
		{impl.OpAdd, math.MaxInt64, 1, math.MinInt64}, {impl.OpSub, math.MinInt64, 1, math.MaxInt64}, {impl.OpSub, 3, 5, -2},
		{impl.OpMul, math.MinInt64, -1, math.MinInt64}, {impl.OpMul, 1 << 32, 1 << 32, 0}, {impl.OpMul, -6, 7, -42},
		{impl.OpDiv, 7, 2, 3}, {impl.OpDiv, -7, 2, -3}, {impl.OpDiv, 7, -2, -3}, {impl.OpDiv, -7, -2, 3}, {impl.OpDiv, 0, -5, 0},
		{impl.OpRem, 7, 2, 1}, {impl.OpRem, -7, 2, -1}, {impl.OpRem, 7, -2, 1}, {impl.OpRem, -7, -2, -1}, {impl.OpRem, 0, -5, 0},
		{impl.OpDiv, math.MinInt64, -1, math.MinInt64}, {impl.OpRem, math.MinInt64, -1, 0},
		{impl.OpDiv, math.MinInt64, 1, math.MinInt64}, {impl.OpDiv, math.MaxInt64, -1, -math.MaxInt64},
		{impl.OpAnd, 12, 10, 8}, {impl.OpOr, 12, 10, 14}, {impl.OpXor, 12, 10, 6}, {impl.OpAnd, -1, 5, 5}, {impl.OpOr, -8, 5, -3}, {impl.OpXor, -1, 0, -1},
		{impl.OpShl, 3, 0, 3}, {impl.OpShl, 3, 63, math.MinInt64}, {impl.OpShl, 3, 64, 3}, {impl.OpShl, 3, 65, 6},
		{impl.OpShl, 3, -1, math.MinInt64}, {impl.OpShl, 3, -64, 3}, {impl.OpShl, 3, math.MinInt64, 3}, {impl.OpShl, 1, 128 + 5, 32},
		{impl.OpShr, -9, 0, -9}, {impl.OpShr, -9, 1, -5}, {impl.OpShr, -9, 63, -1}, {impl.OpShr, 9, 63, 0}, {impl.OpShr, -9, 64, -9}, {impl.OpShr, -9, 65, -5}, {impl.OpShr, -9, -1, -1},
		{impl.OpUshr, -1, 0, -1}, {impl.OpUshr, -1, 1, math.MaxInt64}, {impl.OpUshr, -1, 63, 1}, {impl.OpUshr, -1, 64, -1}, {impl.OpUshr, -1, 65, math.MaxInt64},
		{impl.OpUshr, -1, -1, 1}, {impl.OpUshr, math.MinInt64, 63, 1}, {impl.OpUshr, 8, 2, 2},
		{impl.OpLess, math.MinInt64, math.MaxInt64, 1}, {impl.OpLess, math.MaxInt64, math.MinInt64, 0}, {impl.OpLess, 4, 4, 0}, {impl.OpLess, -1, 0, 1},
		{impl.OpAtmost, 4, 4, 1}, {impl.OpAtmost, 5, 4, 0}, {impl.OpAtmost, -5, 4, 1}, {impl.OpSame, 4, 4, 1}, {impl.OpSame, 4, -4, 0},
	} {
		binaryIs(t, c.op, c.a, c.b, impl.Value{N: c.n})
	}
}

func TestBinaryByNought(t *testing.T) {
	for _, a := range []int64{0, 1, -1, math.MaxInt64, math.MinInt64} {
		binaryIs(t, impl.OpDiv, a, 0, impl.Value{Trap: impl.TrapZero})
		binaryIs(t, impl.OpRem, a, 0, impl.Value{Trap: impl.TrapZero})
		for op := int64(firstBinary); op <= lastBinary; op++ {
			if op != impl.OpDiv && op != impl.OpRem && impl.Binary(op, a, 0).Trap != 0 {
				t.Errorf("Binary(%d, %d, 0) traps", op, a)
			}
		}
	}
}

// strangeOps are none of either call's own, from just outside all of them to both ends.
func strangeOps() []int64 {
	l := []int64{-1, math.MinInt64, math.MaxInt64, -firstBinary, -firstUnary, 256 + firstBinary, 1<<32 + firstBinary, 1<<32 + firstUnary, math.MinInt64 + firstBinary}
	for op := int64(0); op < firstBinary; op++ {
		l = append(l, op)
	}
	for op := int64(lastUnary + 1); op < 300; op++ {
		l = append(l, op)
	}
	return l
}

func TestStrangeOps(t *testing.T) {
	inBinary, inUnary := strangeOps(), strangeOps()
	for op := int64(firstUnary); op <= lastUnary; op++ {
		inBinary = append(inBinary, op)
	}
	for op := int64(firstBinary); op <= lastBinary; op++ {
		inUnary = append(inUnary, op)
	}
	for _, a := range []int64{0, 1, -1, 77, math.MaxInt64, math.MinInt64} {
		for _, op := range inBinary {
			for _, b := range []int64{0, 1, -1, 5, math.MinInt64} {
				binaryIs(t, op, a, b, impl.Value{})
			}
		}
		for _, op := range inUnary {
			unaryIs(t, op, a, impl.Value{})
		}
	}
}

func TestUnaryNumbers(t *testing.T) {
	for op := int64(firstUnary); op <= lastUnary; op++ {
		for _, a := range edgeNumbers() {
			unaryIs(t, op, a, impl.Value{N: wantUnary(op, a)})
		}
	}
	for _, c := range []struct{ op, a, n int64 }{
		{impl.OpNeg, 5, -5}, {impl.OpNeg, 0, 0}, {impl.OpNeg, math.MinInt64, math.MinInt64}, {impl.OpNeg, math.MaxInt64, -math.MaxInt64},
		{impl.OpNot, 0, -1}, {impl.OpNot, -1, 0}, {impl.OpNot, math.MinInt64, math.MaxInt64},
		{impl.OpByte, 127, 127}, {impl.OpByte, 128, -128}, {impl.OpByte, -128, -128}, {impl.OpByte, -129, 127}, {impl.OpByte, 256, 0}, {impl.OpByte, math.MinInt64, 0},
		{impl.OpShort, 32767, 32767}, {impl.OpShort, 32768, -32768}, {impl.OpShort, -32768, -32768}, {impl.OpShort, -32769, 32767}, {impl.OpShort, 1 << 16, 0},
		{impl.OpInt, 1<<31 - 1, 1<<31 - 1}, {impl.OpInt, 1 << 31, -1 << 31}, {impl.OpInt, -1 << 31, -1 << 31}, {impl.OpInt, -1<<31 - 1, 1<<31 - 1}, {impl.OpInt, 1 << 32, 0},
		{impl.OpWord, -1, 1<<32 - 1}, {impl.OpWord, 1 << 31, 1 << 31}, {impl.OpWord, 1 << 32, 0}, {impl.OpWord, math.MinInt64, 0}, {impl.OpWord, math.MaxInt64, 1<<32 - 1},
	} {
		unaryIs(t, c.op, c.a, impl.Value{N: c.n})
	}
}

func TestFitsNumbers(t *testing.T) {
	for bits := int64(-3); bits <= 70; bits++ {
		l := edgeNumbers()
		if bits >= 1 && bits <= 64 {
			end := int64(1) << (bits - 1)
			l = append(l, end, end-1, end-2, end+1, -end, -end-1, -end-2, -end+1)
		}
		for _, n := range l {
			if got := impl.Fits(n, bits); got != wantFits(n, bits) {
				t.Errorf("Fits(%d, %d): got %v", n, bits, got)
			}
		}
	}
	for _, c := range []struct {
		n, bits int64
		fits    bool
	}{
		{0, 1, true}, {-1, 1, true}, {1, 1, false}, {-2, 1, false}, {0, 0, false}, {0, -1, false}, {0, 65, false},
		{math.MaxInt64, 64, true}, {math.MinInt64, 64, true}, {math.MaxInt64, 63, false}, {math.MinInt64, 63, false}, {math.MinInt64 / 2, 63, true},
		{0, math.MaxInt64, false}, {0, math.MinInt64, false}, {0, 1<<32 + 8, false}, {-1, -63, false}, {5, 128, false}, {5, 64 + 8, false},
		{-128, 8, true}, {-129, 8, false}, {32767, 16, true}, {32768, 16, false}, {-1 << 31, 32, true}, {1 << 31, 32, false},
	} {
		if got := impl.Fits(c.n, c.bits); got != c.fits {
			t.Errorf("Fits(%d, %d): got %v", c.n, c.bits, got)
		}
	}
}

// Promise 3: what was taken off is put back by a sum, what was turned by the same bits.
func TestPutBack(t *testing.T) {
	for _, a := range edgeNumbers() {
		for _, b := range edgeNumbers() {
			if got := number(t, impl.OpAdd, number(t, impl.OpSub, a, b), b); got != a {
				t.Errorf("%d less %d, and %d, is %d", a, b, b, got)
			}
			if got := number(t, impl.OpXor, number(t, impl.OpXor, a, b), b); got != a {
				t.Errorf("%d turned twice by %d is %d", a, b, got)
			}
		}
		if got := impl.Unary(impl.OpNeg, impl.Unary(impl.OpNeg, a).N).N; got != a {
			t.Errorf("%d taken off 0 twice is %d", a, got)
		}
		if got := impl.Unary(impl.OpNot, impl.Unary(impl.OpNot, a).N).N; got != a {
			t.Errorf("%d with all bits turned twice is %d", a, got)
		}
	}
}

// Promise 3: a quotient times the divisor, and what is left, are the number.
func TestQuotients(t *testing.T) {
	for _, a := range edgeNumbers() {
		for _, b := range edgeNumbers() {
			if b == 0 {
				continue
			}
			quotient, left := number(t, impl.OpDiv, a, b), number(t, impl.OpRem, a, b)
			if got := number(t, impl.OpAdd, number(t, impl.OpMul, quotient, b), left); got != a {
				t.Errorf("%d times %d, and %d, is %d, not %d", quotient, b, left, got, a)
			}
			if left != 0 && (left < 0) != (a < 0) {
				t.Errorf("%d over %d leaves %d", a, b, left)
			}
		}
	}
}

// Promise 3: less, at most and the same go together.
func TestOrder(t *testing.T) {
	for _, a := range edgeNumbers() {
		for _, b := range edgeNumbers() {
			less, atmost, same := number(t, impl.OpLess, a, b), number(t, impl.OpAtmost, a, b), number(t, impl.OpSame, a, b)
			if atmost != number(t, impl.OpOr, less, same) || less+same > 1 {
				t.Errorf("%d and %d: less %d, at most %d, same %d", a, b, less, atmost, same)
			}
			if less != 1-number(t, impl.OpAtmost, b, a) || same != number(t, impl.OpSame, b, a) {
				t.Errorf("%d and %d: they stand otherwise the other way round", a, b)
			}
		}
	}
}

// Promise 4.
func TestNarrow(t *testing.T) {
	for _, c := range []struct{ op, bits int64 }{{impl.OpByte, 8}, {impl.OpShort, 16}, {impl.OpInt, 32}} {
		for _, a := range edgeNumbers() {
			n := impl.Unary(c.op, a).N
			if !impl.Fits(n, c.bits) {
				t.Errorf("Unary(%d, %d) is %d: that has more than %d bits", c.op, a, n, c.bits)
			}
			if impl.Fits(a, c.bits) != (n == a) {
				t.Errorf("Unary(%d, %d) is %d", c.op, a, n)
			}
			unaryIs(t, c.op, n, impl.Value{N: n})
		}
	}
}

// Promise 4: a word has no sign; it fits in one bit more, and is itself from 0 to its greatest.
func TestNarrowWord(t *testing.T) {
	for _, a := range edgeNumbers() {
		n := impl.Unary(impl.OpWord, a).N
		if !impl.Fits(n, 33) || n < 0 {
			t.Errorf("Unary(OpWord, %d) is %d", a, n)
		}
		if (a >= 0 && impl.Fits(a, 33)) != (n == a) {
			t.Errorf("Unary(OpWord, %d) is %d", a, n)
		}
		unaryIs(t, impl.OpWord, n, impl.Value{N: n})
	}
}

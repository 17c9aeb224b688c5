package impl

// Constants, see chapter 1.
const (
	OK         = 0
	ErrForm    = 1
	ErrSize    = 2
	ErrSyntax  = 3
	ErrShort   = 4
	ErrStack   = 5
	ErrFlow    = 6
	ErrNone    = 7
	ErrFuel    = 8
	TrapZero   = 11
	TrapIndex  = 12
	TrapHandle = 13
	TrapHeap   = 14
	TrapDeep   = 15
	MaxBytes   = 20000
	MaxList    = 400
	MaxFuncs   = 6
	MaxCode    = 60
	MaxLocals  = 8
	MaxStack   = 8
)

// NumOut is a thing of chapter 2.
type NumOut struct {
	N    int64
	At   int64
	Code int64
}

// maxNumBytes bounds a number's bytes: seven bits each hold 64 bits in ten.
const maxNumBytes = 10

// lastShift is where the bits of a tenth byte begin: of 64 bits one alone is left there.
const lastShift = 7 * (maxNumBytes - 1)

// sumBegin, sumTimes and sumPrime: a prime above every byte and above sumTimes,
// so that no single byte can be another one without the sum telling it.
const (
	sumBegin = 7
	sumTimes = 257
	sumPrime = 4294967291
)

// foldSign lets numbers near 0 on either side take few bytes.
func foldSign(n int64) uint64 {
	u := uint64(n) << 1
	if n < 0 {
		return ^u
	}
	return u
}

func unfoldSign(u uint64) int64 {
	n := int64(u >> 1)
	if u&1 == 1 {
		return ^n
	}
	return n
}

// PutNum: see chapter 2.
func PutNum(n int64) string {
	var text [maxNumBytes]byte
	u := foldSign(n)
	end := 0
	for u >= 128 {
		text[end] = byte(u&127) + 128
		u >>= 7
		end++
	}
	text[end] = byte(u)
	return string(text[:end+1])
}

// GetNum: see chapter 2.
func GetNum(text string, at int64) NumOut {
	if len(text) > MaxBytes {
		return NumOut{Code: ErrSize}
	}
	if at < 0 {
		return NumOut{Code: ErrForm}
	}
	return readNum(text, at)
}

// readNum goes from state to state; at is not below 0.
func readNum(text string, at int64) NumOut {
	var u uint64
	var b byte
	var shift uint
more:
	if at >= int64(len(text)) {
		return NumOut{Code: ErrShort}
	}
	b = text[at]
	at++
	if shift == lastShift && b > 1 {
		goto wrong
	}
	u |= uint64(b&127) << shift
	if b < 128 {
		goto last
	}
	shift += 7
	goto more
last:
	// A nought on top adds nothing: the byte ahead of it could have been the last one.
	if b == 0 && shift > 0 {
		goto wrong
	}
	return NumOut{N: unfoldSign(u), At: at}
wrong:
	return NumOut{Code: ErrSyntax}
}

// PutNums: see chapter 2.
func PutNums(l []int64) string {
	if len(l) > MaxList {
		return ""
	}
	text := make([]byte, maxNumBytes*(len(l)+1))
	end := copy(text, PutNum(int64(len(l))))
	for _, n := range l {
		end += copy(text[end:], PutNum(n))
	}
	return string(text[:end])
}

// Sum: see chapter 2.
func Sum(text string) int64 {
	if len(text) > MaxBytes {
		return 0
	}
	sum := int64(sumBegin)
	for at := 0; at < len(text); at++ {
		sum = (sum*sumTimes + int64(text[at])) % sumPrime
	}
	return sum
}

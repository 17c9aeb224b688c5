package tests

import (
	"encoding/binary"
	"math"
	"slices"
	"strings"
	"testing"

	"loop.example/g00219/impl"
)

// sampleNumbers has both ends, 0, and each number at which the bytes become one more, with its neighbours.
func sampleNumbers() []int64 {
	l := []int64{0, 1, -1, 2, -2, 63, 64, -64, -65, 8191, 8192, -8192, -8193, 123456789, -987654321,
		math.MaxInt64, math.MaxInt64 - 1, math.MinInt64, math.MinInt64 + 1}
	for k := range 63 {
		n := int64(1) << k
		l = append(l, n, n-1, n+1, -n, -n-1, -n+1)
	}
	x := uint64(1)
	for range 3000 {
		x = x*6364136223846793005 + 1442695040888963407
		l = append(l, int64(x), int64(x>>(x>>58)))
	}
	return l
}

// bytesOf is told by the library's zigzag numbers, which have the same form.
func bytesOf(n int64) string {
	return string(binary.AppendVarint(nil, n))
}

// refused asks for the code, and for nothing beside it.
func refused(t *testing.T, text string, at int64, code int64) {
	t.Helper()
	if got := impl.GetNum(text, at); got != (impl.NumOut{Code: code}) {
		t.Errorf("GetNum of %d bytes (%q) at %d: got %+v, want code %d alone", len(text), text[:min(len(text), 20)], at, got, code)
	}
}

func read(t *testing.T, text string, at int64, n int64, end int64) {
	t.Helper()
	if got := impl.GetNum(text, at); got != (impl.NumOut{N: n, At: end}) {
		t.Errorf("GetNum of %d bytes at %d: got %+v, want %d up to %d", len(text), at, got, n, end)
	}
}

func TestPutNumBytes(t *testing.T) {
	for _, c := range []struct {
		n    int64
		text string
	}{
		{0, "\x00"}, {-1, "\x01"}, {1, "\x02"}, {-64, "\x7f"}, {64, "\x80\x01"}, {-65, "\x81\x01"},
		{8191, "\xfe\x7f"}, {8192, "\x80\x80\x01"},
		{math.MaxInt64, "\xfe\xff\xff\xff\xff\xff\xff\xff\xff\x01"},
		{math.MinInt64, "\xff\xff\xff\xff\xff\xff\xff\xff\xff\x01"},
	} {
		if got := impl.PutNum(c.n); got != c.text {
			t.Errorf("PutNum(%d): got %q, want %q", c.n, got, c.text)
		}
	}
	for _, n := range sampleNumbers() {
		if got := impl.PutNum(n); got != bytesOf(n) {
			t.Errorf("PutNum(%d): got %q, want %q", n, got, bytesOf(n))
		}
	}
}

// Promise 1.
func TestNumbersComeBack(t *testing.T) {
	for _, n := range sampleNumbers() {
		text := impl.PutNum(n)
		size := int64(len(text))
		read(t, text, 0, n, size)
		read(t, "\x80\xff\x00"+text, 3, n, 3+size)
		read(t, text+"\xff\xff", 0, n, size)
		read(t, text+"\x00", 0, n, size)
	}
}

// Promise 1: one by one, too.
func TestNumbersComeBackOneByOne(t *testing.T) {
	l := sampleNumbers()
	for len(l) > 0 {
		some := l[:min(len(l), impl.MaxList)]
		l = l[len(some):]
		text := impl.PutNums(some)
		at := comeBack(t, text, 0, int64(len(some)))
		for _, n := range some {
			at = comeBack(t, text, at, n)
		}
		if at != int64(len(text)) {
			t.Errorf("list of %d: its bytes end at %d, not at %d", len(some), len(text), at)
		}
		refused(t, text, at, impl.ErrShort)
	}
}

func comeBack(t *testing.T, text string, at int64, n int64) int64 {
	t.Helper()
	got := impl.GetNum(text, at)
	if got.Code != impl.OK || got.N != n || got.At <= at {
		t.Fatalf("GetNum at %d: got %+v, want %d", at, got, n)
	}
	return got.At
}

// Each text of two bytes, at each place: what is read has just these bytes.
func TestGetNumReadsWhatPutNumWrites(t *testing.T) {
	for a := range 256 {
		for b := range 256 {
			text := string([]byte{byte(a), byte(b)})
			for at := range 2 {
				twoBytesHold(t, text, at)
			}
		}
	}
}

func twoBytesHold(t *testing.T, text string, at int) {
	t.Helper()
	rest := text[at:]
	u, size := binary.Uvarint([]byte(rest))
	switch {
	case size == 0:
		refused(t, text, int64(at), impl.ErrShort)
	case size > 1 && u < 128:
		refused(t, text, int64(at), impl.ErrSyntax)
	default:
		n, _ := binary.Varint([]byte(rest))
		read(t, text, int64(at), n, int64(at+size))
		if impl.PutNum(n) != rest[:size] {
			t.Errorf("PutNum(%d) is not %q", n, rest[:size])
		}
	}
}

func TestGetNumPlaces(t *testing.T) {
	text := "\x02\x04"
	for _, at := range []int64{-1, -2, -300, math.MinInt64} {
		refused(t, text, at, impl.ErrForm)
		refused(t, "", at, impl.ErrForm)
	}
	read(t, text, 1, 2, 2)
	for _, at := range []int64{2, 3, 100, 1 << 32, math.MaxInt64} {
		refused(t, text, at, impl.ErrShort)
	}
	refused(t, "", 0, impl.ErrShort)
	refused(t, "", 1, impl.ErrShort)
}

func TestGetNumEndsTooEarly(t *testing.T) {
	for _, n := range sampleNumbers() {
		text := impl.PutNum(n)
		for end := range len(text) {
			refused(t, text[:end], 0, impl.ErrShort)
			refused(t, "\x05"+text[:end], 1, impl.ErrShort)
		}
	}
	for size := range 10 {
		refused(t, strings.Repeat("\x80", size), 0, impl.ErrShort)
		refused(t, strings.Repeat("\xff", size), 0, impl.ErrShort)
	}
}

func TestGetNumTenthByte(t *testing.T) {
	for _, nine := range []string{strings.Repeat("\xff", 9), strings.Repeat("\x80", 9)} {
		for b := range 256 {
			text := nine + string([]byte{byte(b)})
			if b != 1 {
				refused(t, text, 0, impl.ErrSyntax)
				refused(t, text+"\x01", 0, impl.ErrSyntax)
			}
		}
	}
	read(t, strings.Repeat("\xff", 9)+"\x01", 0, math.MinInt64, 10)
	read(t, strings.Repeat("\x80", 9)+"\x01", 0, 1<<62, 10)
	for size := 10; size < 13; size++ {
		refused(t, strings.Repeat("\xff", size), 0, impl.ErrSyntax)
	}
}

func TestGetNumMoreBytesThanNeeded(t *testing.T) {
	for size := 1; size < 10; size++ {
		for _, b := range []string{"\x80", "\x81", "\xff"} {
			refused(t, strings.Repeat(b, size)+"\x00", 0, impl.ErrSyntax)
			refused(t, "\x00"+strings.Repeat(b, size)+"\x00\x00", 1, impl.ErrSyntax)
		}
	}
	read(t, "\x00", 0, 0, 1)
}

func TestGetNumSizes(t *testing.T) {
	full := strings.Repeat("\x00", impl.MaxBytes-2) + "\x80\x01"
	read(t, full, 0, 0, 1)
	read(t, full, impl.MaxBytes-2, 64, impl.MaxBytes)
	refused(t, full, impl.MaxBytes, impl.ErrShort)
	refused(t, full, -1, impl.ErrForm)
	for _, at := range []int64{0, -1, impl.MaxBytes, impl.MaxBytes + 1, math.MaxInt64, math.MinInt64} {
		refused(t, full+"\x00", at, impl.ErrSize)
	}
	refused(t, strings.Repeat("\x80", impl.MaxBytes+1), 0, impl.ErrSize)
}

func TestPutNumsBytes(t *testing.T) {
	for _, l := range [][]int64{nil, {}, {0}, {1, -1}, {math.MinInt64, math.MaxInt64, 0, 64}, sampleNumbers()[:impl.MaxList]} {
		want := bytesOf(int64(len(l)))
		for _, n := range l {
			want += bytesOf(n)
		}
		if got := impl.PutNums(l); got != want {
			t.Errorf("PutNums of %d: got %q, want %q", len(l), got, want)
		}
	}
}

func TestPutNumsSizes(t *testing.T) {
	full := slices.Repeat([]int64{math.MinInt64}, impl.MaxList)
	if got := len(impl.PutNums(full)); got != 2+10*impl.MaxList {
		t.Errorf("PutNums of MaxList numbers: got %d bytes", got)
	}
	if got := impl.PutNums(append(full, 1)); got != "" {
		t.Errorf("PutNums of one more than MaxList: got %d bytes, want none", len(got))
	}
}

func TestPutNumsLeavesItsList(t *testing.T) {
	l := []int64{5, -6, math.MinInt64, 9}
	impl.PutNums(l[:3])
	if !slices.Equal(l, []int64{5, -6, math.MinInt64, 9}) {
		t.Errorf("the list is %v now", l)
	}
}

func sumOf(text string) int64 {
	sum := uint64(7)
	for _, b := range []byte(text) {
		sum = (257*sum + uint64(b)) % 4294967291
	}
	return int64(sum)
}

func TestSumNumbers(t *testing.T) {
	for _, c := range []struct {
		text string
		sum  int64
	}{
		{"", 7}, {"\x00", 1799}, {"a", 1896}, {"\xff", 2054}, {"ab", 1896*257 + 'b'},
		{"\xff\xff\xff", 135730436}, {"\xff\xff\xff\xff", 522983979},
	} {
		if got := impl.Sum(c.text); got != c.sum {
			t.Errorf("Sum(%q): got %d, want %d", c.text, got, c.sum)
		}
	}
	for _, text := range sumTexts() {
		if got := impl.Sum(text); got != sumOf(text) {
			t.Errorf("Sum of %d bytes: got %d, want %d", len(text), got, sumOf(text))
		}
	}
}

// sumTexts has texts that are no right UTF-8, too, up to the greatest size.
func sumTexts() []string {
	l := []string{"é€", "\xc3", "\xff\xfe\x80", "a\x00b", strings.Repeat("\xff", impl.MaxBytes), strings.Repeat("\x00", impl.MaxBytes)}
	text := make([]byte, impl.MaxBytes)
	for at := range text {
		text[at] = byte(at*at*31 + at>>3)
	}
	for _, size := range []int{1, 2, 3, 4, 5, 100, impl.MaxBytes - 1, impl.MaxBytes} {
		l = append(l, string(text[:size]))
	}
	return l
}

func TestSumSizes(t *testing.T) {
	full := strings.Repeat("x", impl.MaxBytes)
	if impl.Sum(full) != sumOf(full) {
		t.Errorf("Sum of MaxBytes bytes: got %d, want %d", impl.Sum(full), sumOf(full))
	}
	for _, text := range []string{full + "x", strings.Repeat("\x00", impl.MaxBytes+1), full + full} {
		if got := impl.Sum(text); got != 0 {
			t.Errorf("Sum of %d bytes: got %d, want 0", len(text), got)
		}
	}
}

// Promise 2.
func TestOneOtherByteHasAnotherSum(t *testing.T) {
	for _, text := range sumTexts() {
		sum := impl.Sum(text)
		other := []byte(text)
		for _, at := range somePlaces(len(text)) {
			for b := range 256 {
				other[at] = byte(b)
				same := other[at] == text[at]
				if got := impl.Sum(string(other)); (got == sum) != same {
					t.Fatalf("%d bytes, the one at %d is %d instead of %d: the sums are %d and %d", len(text), at, b, text[at], got, sum)
				}
			}
			other[at] = text[at]
		}
	}
}

// somePlaces has all places of a short text, and of a long one both ends and some between.
func somePlaces(size int) []int {
	if size <= 5 {
		return []int{0, 1, 2, 3, 4}[:size]
	}
	return []int{0, 1, 2, size / 3, size / 2, size - 3, size - 2, size - 1}
}

package tests

import (
	"encoding/binary"
	"math"
	"slices"
	"strconv"
	"strings"
	"testing"

	"loop.example/g00219/impl"
)

// partsOf are the bytes of a program, right or not, a part for each thing that is read: two bytes, then numbers, the sum the last one.
func partsOf(p impl.Program) []string {
	parts := []string{"\x4a", "\x31", bytesOf(int64(len(p.Funcs)))}
	for _, f := range p.Funcs {
		parts = append(parts, bytesOf(f.Args), bytesOf(f.Locals), bytesOf(int64(len(f.Code))))
		for _, i := range f.Code {
			parts = append(parts, bytesOf(i.Op), bytesOf(i.A))
		}
	}
	return append(parts, bytesOf(sumOf(strings.Join(parts, ""))))
}

func textOf(parts []string) string {
	return strings.Join(parts, "")
}

func placeOf(parts []string, part int) int64 {
	return int64(len(textOf(parts[:part])))
}

// summed lets the sum that stands at that part be the one of the parts ahead of it.
func summed(parts []string, at int) []string {
	l := slices.Clone(parts)
	l[at] = bytesOf(sumOf(textOf(l[:at])))
	return l
}

// countParts are the parts that say how many there are, the Funcs first.
func countParts(p impl.Program) []int {
	l := []int{2}
	next := 3
	for _, f := range p.Funcs {
		l = append(l, next+2)
		next += 3 + 2*len(f.Code)
	}
	return l
}

func fileIs(t *testing.T, what string, text string, want impl.FileOut) {
	t.Helper()
	got := impl.FileRead(text)
	if got.Code != want.Code || got.At != want.At {
		t.Errorf("FileRead of %s: got code %d at %d, want code %d at %d", what, got.Code, got.At, want.Code, want.At)
	}
	if len(got.Program.Funcs) != len(want.Program.Funcs) || !impl.ProgramSame(got.Program, want.Program) {
		t.Errorf("FileRead of %s: got %+v, want %+v", what, got.Program, want.Program)
	}
}

func fileRefused(t *testing.T, what string, text string, at int64, code int64) {
	t.Helper()
	fileIs(t, what, text, impl.FileOut{At: at, Code: code})
}

// allOps has each op there is once at least.
func allOps(t *testing.T) impl.Program {
	t.Helper()
	text := "push 7; store 1; load 0; dup; pop; "
	for _, name := range strings.Split("add sub mul div rem and or xor shl shr ushr less atmost same", " ") {
		text += "load 1; " + name + "; "
	}
	text += "neg; not; byte; short; int; word; jz 0; jump 41; push 3; new; dup; push 0; push 5; set; len; out; jump 2"
	return programOf(funcOf(t, 1, 2, text), funcOf(t, 0, 0, "push 2; new; push 1; get; call 0; ret"))
}

func filePrograms(t *testing.T) map[string]impl.Program {
	t.Helper()
	var numbers impl.Func
	for _, n := range []int64{0, 1, -1, 63, 64, -64, -65, 8191, 8192, -8192, -8193, 1 << 62, math.MaxInt64, math.MinInt64} {
		numbers.Code = append(numbers.Code, ins(impl.OpPush, n), ins(impl.OpOut, 0))
	}
	numbers.Code = append(numbers.Code, ins(impl.OpJump, 0))
	full := funcOf(t, 4, 8, times(29, "push -9223372036854775808; pop")+"load 7; ret")
	return map[string]impl.Program{
		"one instruction":      programOf(funcOf(t, 0, 0, "jump 0")),
		"two instructions":     programOf(good(t)),
		"three functions":      threeFuncs(),
		"each op":              allOps(t),
		"numbers of each size": programOf(numbers),
		"most Args and Locals": programOf(funcOf(t, 4, 8, "load 7; load 3; add; ret"), funcOf(t, 0, 8, "load 0; ret")),
		"most functions":       programOf(good(t), good(t), good(t), good(t), good(t), good(t)),
		"the most there may be": programOf(full, full, full, full, full,
			funcOf(t, 4, 8, times(29, "push 9223372036854775807; pop")+"load 7; ret")),
		"places that are not reached": programOf(funcOf(t, 0, 0, "push 1; ret; set; call 0; jump 2")),
	}
}

func TestFileProgramsAreRight(t *testing.T) {
	ops := map[int64]int{}
	for what, p := range filePrograms(t) {
		if got := impl.Verify(p); got != (impl.VerifyOut{}) {
			t.Errorf("%s: %+v", what, got)
		}
		for _, f := range p.Funcs {
			for _, i := range f.Code {
				ops[i.Op]++
			}
		}
	}
	for _, o := range opsSaid(t) {
		if ops[o.op] == 0 {
			t.Errorf("no program has %s", o.name)
		}
	}
}

func TestFileBytesByHand(t *testing.T) {
	for _, c := range []struct {
		p     impl.Program
		bytes string
	}{
		{programOf(funcOf(t, 0, 0, "jump 0")), "J1\x02\x00\x00\x02\x3c\x00"},
		{programOf(funcOf(t, 1, 3, "push -1; pop; load 2; ret")), "J1\x02\x02\x06\x08\x02\x01\x0a\x00\x04\x04\x42\x00"},
		{programOf(good(t), funcOf(t, 4, 8, "push 64; ret")), "J1\x04\x00\x00\x04\x02\x02\x42\x00\x08\x10\x04\x02\x80\x01\x42\x00"},
	} {
		want := c.bytes + string(binary.AppendVarint(nil, sumOf(c.bytes)))
		if got := impl.FileBytes(c.p); got != want {
			t.Errorf("FileBytes: got %q, want %q", got, want)
		}
		fileIs(t, "bytes by hand", want, impl.FileOut{Program: c.p})
	}
}

// heldFile asks promise 7 of a right program.
func heldFile(t *testing.T, what string, p impl.Program) {
	t.Helper()
	parts := partsOf(p)
	text := impl.FileBytes(p)
	if text != textOf(parts) {
		t.Fatalf("FileBytes of %s: got %q, want %q", what, text, textOf(parts))
	}
	fileIs(t, what, text, impl.FileOut{Program: p})
	at := 0
	for _, part := range parts {
		for in := range len(part) {
			end := at + in
			fileRefused(t, "the first "+strconv.Itoa(end)+" bytes of "+what, text[:end], int64(at), impl.ErrShort)
		}
		at += len(part)
	}
}

// Promise 7.
func TestFilesComeBack(t *testing.T) {
	for what, p := range filePrograms(t) {
		heldFile(t, what, p)
	}
}

// Promise 7, of programs that are thrown, with numbers of all sizes.
func TestThrownFilesComeBack(t *testing.T) {
	d := &dice{u: 5}
	numbers := sampleNumbers()
	rights := 0
	for range 3000 {
		p := thrownProgram(t, d)
		for f := range p.Funcs {
			for at, i := range p.Funcs[f].Code {
				if i.Op == impl.OpPush {
					p.Funcs[f].Code[at].A = numbers[d.below(len(numbers))]
				}
			}
		}
		want := impl.FileOut{Code: impl.Verify(p).Code}
		if want.Code != impl.OK {
			fileIs(t, "a thrown program that is not right", textOf(partsOf(p)), want)
			noFile(t, "a thrown program that is not right", p)
			continue
		}
		rights++
		heldFile(t, "a thrown program", p)
	}
	if rights < 200 {
		t.Errorf("only %d right programs were thrown", rights)
	}
}

func noFile(t *testing.T, what string, p impl.Program) {
	t.Helper()
	if got := impl.FileBytes(p); got != "" {
		t.Errorf("FileBytes of %s: got %d bytes, want none", what, len(got))
	}
}

func TestFileBytesOfWrongPrograms(t *testing.T) {
	noFile(t, "the zero program", impl.Program{})
	noFile(t, "no function", programOf([]impl.Func{}...))
	for _, n := range []int{impl.MaxFuncs + 1, impl.MaxList, impl.MaxList + 1} {
		noFile(t, strconv.Itoa(n)+" functions", programOf(slices.Repeat([]impl.Func{good(t)}, n)...))
	}
	for _, a := range loneFaults(t) {
		noFile(t, a.what, programOf(a.f))
		noFile(t, a.what+" behind a right one", programOf(good(t), a.f))
		noFile(t, a.what+" ahead of a right one", programOf(a.f, good(t)))
	}
	for _, op := range noOps() {
		noFile(t, "op "+strconv.FormatInt(op, 10), programOf(impl.Func{Code: []impl.Ins{ins(op, 0), ins(impl.OpJump, 0)}}))
	}
}

// A program that is not right is refused with Verify's code at 0; one that has too little or too much, where it says so.
func TestFileReadOfWrongPrograms(t *testing.T) {
	for _, a := range loneFaults(t) {
		for f := range impl.MaxFuncs {
			p := programOf(good(t), good(t), good(t), good(t), good(t), good(t))
			p.Funcs[f] = a.f
			parts := partsOf(p)
			want := impl.FileOut{Code: a.code}
			if len(a.f.Code) < 1 || len(a.f.Code) > impl.MaxCode {
				want.At = placeOf(parts, countParts(p)[1+f])
			}
			fileIs(t, a.what+" in function "+strconv.Itoa(f), textOf(parts), want)
		}
		for _, b := range loneFaults(t) {
			if len(a.f.Code)*len(b.f.Code) == 0 || max(len(a.f.Code), len(b.f.Code)) > impl.MaxCode {
				continue
			}
			fileIs(t, a.what+", then "+b.what, textOf(partsOf(programOf(a.f, b.f))), impl.FileOut{Code: a.code})
		}
	}
	for _, n := range sampleNumbers()[:400] {
		p := programOf(good(t), impl.Func{Args: n, Locals: n, Code: good(t).Code})
		fileIs(t, "Args and Locals of any size", textOf(partsOf(p)), fileSaid(textOf(partsOf(p))))
		p = programOf(impl.Func{Code: []impl.Ins{ins(n, n), ins(impl.OpRet, 0)}})
		fileIs(t, "Op and A of any size", textOf(partsOf(p)), fileSaid(textOf(partsOf(p))))
	}
}

func TestFileMark(t *testing.T) {
	fileRefused(t, "no byte", "", 0, impl.ErrShort)
	fileRefused(t, "the first byte", "J", 1, impl.ErrShort)
	fileRefused(t, "the first two bytes", "J1", 2, impl.ErrShort)
	rest := impl.FileBytes(threeFuncs())[2:]
	for b := range 256 {
		one := string([]byte{byte(b)})
		if one != "J" {
			fileRefused(t, "another first byte alone", one, 0, impl.ErrSyntax)
			fileRefused(t, "another first byte and the second one", one+"1", 0, impl.ErrSyntax)
			fileRefused(t, "another first byte", one+"1"+rest, 0, impl.ErrSyntax)
			fileRefused(t, "two other bytes", one+one+rest, 0, impl.ErrSyntax)
		}
		if one != "1" {
			fileRefused(t, "another second byte, and no more", "J"+one, 1, impl.ErrSyntax)
			fileRefused(t, "another second byte", "J"+one+rest, 1, impl.ErrSyntax)
		}
	}
	fileRefused(t, "no first byte", "1"+rest, 0, impl.ErrSyntax)
	fileRefused(t, "no second byte", "J"+rest, 1, impl.ErrSyntax)
	fileRefused(t, "neither of the two", rest, 0, impl.ErrSyntax)
	fileRefused(t, "a byte ahead", "\x00J1"+rest, 0, impl.ErrSyntax)
	fileRefused(t, "a small letter", "j1"+rest, 0, impl.ErrSyntax)
}

// wrongNumbers are texts in which no number is put as PutNum puts it.
func wrongNumbers() []string {
	return []string{"\x80\x00", "\x82\x00", "\xff\x80\x00", "\x84\x80\x80\x80\x80\x80\x80\x80\x80\x00",
		strings.Repeat("\xff", 9) + "\x02", strings.Repeat("\x80", 9) + "\x7f", strings.Repeat("\xff", 10), strings.Repeat("\x80", 12)}
}

func TestFileNumbers(t *testing.T) {
	for what, p := range filePrograms(t) {
		parts := partsOf(p)
		for k := 2; k < len(parts); k++ {
			ahead, behind, at := textOf(parts[:k]), textOf(parts[k+1:]), placeOf(parts, k)
			part := strconv.Itoa(k) + " of " + what
			for _, wrong := range wrongNumbers() {
				fileRefused(t, "a wrong number at part "+part, ahead+wrong+behind, at, impl.ErrSyntax)
				fileRefused(t, "a wrong number, and no more, at part "+part, ahead+wrong, at, impl.ErrSyntax)
			}
			longer := parts[k][:len(parts[k])-1] + string([]byte{parts[k][len(parts[k])-1] | 128}) + "\x00"
			if len(longer) <= 10 {
				fileRefused(t, "the same number in one byte more at part "+part, ahead+longer+behind, at, impl.ErrSyntax)
			}
			for _, size := range []int{0, 1, 2, 9} {
				fileRefused(t, "a number that breaks off at part "+part, ahead+strings.Repeat("\x81", size), at, impl.ErrShort)
			}
		}
	}
}

func TestFileCounts(t *testing.T) {
	counts := []int64{math.MinInt64, -1 << 32, -61, -60, -7, -6, -2, -1, 0, 7, 8, 61, 62, 400, 401, 1<<32 + 1, 1<<32 + 2, math.MaxInt64}
	for what, p := range filePrograms(t) {
		parts := partsOf(p)
		for which, k := range countParts(p) {
			for _, n := range counts {
				if which > 0 && n > 0 && n <= impl.MaxCode {
					continue
				}
				other := slices.Clone(parts)
				other[k] = bytesOf(n)
				text := textOf(summed(other, len(other)-1))
				at := placeOf(parts, k)
				name := what + " that says " + strconv.FormatInt(n, 10) + " at part " + strconv.Itoa(k)
				fileRefused(t, name, text, at, impl.ErrForm)
				fileRefused(t, name+" and ends there", text[:int(at)+len(other[k])], at, impl.ErrForm)
			}
		}
	}
	fileRefused(t, "no function and the sum", textOf(partsOf(impl.Program{})), 2, impl.ErrForm)
	fileRefused(t, "one function too many", textOf(partsOf(programOf(slices.Repeat([]impl.Func{good(t)}, 7)...))), 2, impl.ErrForm)
}

// A count that is another one, but in bounds, lets what follows be read as something else.
func TestFileOtherCounts(t *testing.T) {
	for what, p := range filePrograms(t) {
		parts := partsOf(p)
		for which, k := range countParts(p) {
			most := int64(impl.MaxFuncs)
			if which > 0 {
				most = impl.MaxCode
			}
			for n := int64(1); n <= most; n++ {
				other := slices.Clone(parts)
				other[k] = bytesOf(n)
				text := textOf(other)
				fileIs(t, what+" that says "+strconv.FormatInt(n, 10), text, fileSaid(text))
			}
		}
	}
}

func TestFileSum(t *testing.T) {
	for what, p := range filePrograms(t) {
		parts := partsOf(p)
		last := len(parts) - 1
		ahead, at := textOf(parts[:last]), placeOf(parts, last)
		sum := sumOf(ahead)
		for _, n := range []int64{sum + 1, sum - 1, -sum, 0, 7, sum + 1<<32, sum + 4294967291, sum - 4294967291, ^sum, impl.Sum(ahead[2:]), impl.Sum(ahead + "\x00"),
			math.MinInt64, math.MaxInt64} {
			fileRefused(t, what+" with another sum", ahead+bytesOf(n), at, impl.ErrSyntax)
			fileRefused(t, what+" with another sum and a byte more", ahead+bytesOf(n)+"\x00", at, impl.ErrSyntax)
		}
		fileRefused(t, what+" without a sum", ahead, at, impl.ErrShort)
		for _, more := range []string{"\x00", "\x80", "\n", "J1", textOf(parts), strings.Repeat("\xff", 10)} {
			text := textOf(parts)
			fileRefused(t, what+" with bytes behind it", text+more, int64(len(text)), impl.ErrSyntax)
		}
	}
}

func TestFileSizes(t *testing.T) {
	for what, p := range filePrograms(t) {
		text := impl.FileBytes(p)
		padded := text + strings.Repeat("\x00", impl.MaxBytes-len(text))
		fileRefused(t, what+" with just MaxBytes", padded, int64(len(text)), impl.ErrSyntax)
		fileRefused(t, what+" with one more than MaxBytes", padded+"\x00", 0, impl.ErrSize)
		fileRefused(t, what+" with many more than MaxBytes", padded+padded, 0, impl.ErrSize)
	}
	for _, one := range []string{"x", "\x80", "\x00", "J"} {
		full := strings.Repeat(one, impl.MaxBytes)
		want := impl.FileOut{Code: impl.ErrSyntax}
		if one == "J" {
			want.At = 1
		}
		fileIs(t, "MaxBytes bytes", full, want)
		fileRefused(t, "one more than MaxBytes", full+one, 0, impl.ErrSize)
	}
}

// fileEdit is one thing that is wrong: at a part, which is another one then, and whether the text ends with it.
// Bytes behind the sum are a part more. The code is 0, if all is read, but the program is not right then.
type fileEdit struct {
	what string
	part int
	text string
	ends bool
	code int64
}

// fileEdits are faults of the bytes of threeFuncs; what is read first is told first, a program that is not right last.
func fileEdits(parts []string) []fileEdit {
	last := len(parts) - 1
	edits := []fileEdit{
		{"the first byte", 0, "K", false, impl.ErrSyntax},
		{"the second byte", 1, "2", false, impl.ErrSyntax},
		{"no second byte", 1, "", true, impl.ErrShort},
		{"no function", 2, "\x00", false, impl.ErrForm},
		{"too many functions", 2, "\x0e", false, impl.ErrForm},
		{"another sum", last, "\x02", false, impl.ErrSyntax},
		{"bytes left", last + 1, "\x00", false, impl.ErrSyntax},
	}
	for _, k := range countParts(threeFuncs())[1:] {
		edits = append(edits, fileEdit{"no instruction", k, "\x00", false, impl.ErrForm}, fileEdit{"too many instructions", k, "\x7a", false, impl.ErrForm})
	}
	for k := 2; k <= last; k++ {
		edits = append(edits, fileEdit{"a number too long", k, "\x82\x00", false, impl.ErrSyntax}, fileEdit{"a number that breaks off", k, "\x82", true, impl.ErrShort})
	}
	// The first function's Args above its Locals, and its op at place 0 no op: what is read, but is not right.
	return append(edits, fileEdit{"too many Args", 3, "\x02", false, 0}, fileEdit{"no op", 6, "\x00", false, 0})
}

// edited are the parts with all the edits in them, and the sum of what stands ahead of it then, if none of them is that sum's.
func edited(parts []string, edits ...fileEdit) []string {
	l := append(slices.Clone(parts), "")
	last := len(parts) - 1
	end := len(l)
	own := false
	for _, e := range edits {
		l[e.part] = e.text
		own = own || e.part == last
		if e.ends {
			end = min(end, e.part+1)
		}
	}
	if !own {
		l = summed(l, last)
	}
	return l[:end]
}

func TestFileFaultsTogether(t *testing.T) {
	parts := partsOf(threeFuncs())
	for _, a := range fileEdits(parts) {
		for _, b := range fileEdits(parts) {
			if a.part == b.part && a != b {
				continue
			}
			first := a
			if a.code == 0 || b.code != 0 && b.part < a.part {
				first = b
			}
			l := edited(parts, a, b)
			want := impl.FileOut{Code: impl.ErrForm}
			if first.code != 0 {
				want = impl.FileOut{At: placeOf(l, first.part), Code: first.code}
			}
			fileIs(t, a.what+" with "+b.what, textOf(l), want)
		}
	}
}

// fileWalk reads a text as the document says it, thing by thing; behind the first fault nothing is read any more.
type fileWalk struct {
	text string
	at   int
	out  impl.FileOut
}

func (w *fileWalk) wrong(at int, code int64) {
	if w.out.Code == impl.OK {
		w.out = impl.FileOut{At: int64(at), Code: code}
	}
}

func (w *fileWalk) char(want byte) {
	switch {
	case w.at >= len(w.text):
		w.wrong(w.at, impl.ErrShort)
	case w.text[w.at] != want:
		w.wrong(w.at, impl.ErrSyntax)
	}
	w.at++
}

func (w *fileWalk) number() int64 {
	if w.out.Code != impl.OK {
		return 0
	}
	rest := w.text[min(w.at, len(w.text)):]
	n, size := binary.Varint([]byte(rest))
	switch {
	case size == 0 && len(rest) < 10:
		w.wrong(w.at, impl.ErrShort)
	case size <= 0 || bytesOf(n) != rest[:size]:
		w.wrong(w.at, impl.ErrSyntax)
	}
	w.at += size
	return n
}

func (w *fileWalk) howMany(most int64) int64 {
	begin := w.at
	n := w.number()
	if n < 1 || n > most {
		w.wrong(begin, impl.ErrForm)
	}
	if w.out.Code != impl.OK {
		return 0
	}
	return n
}

// fileSaid is FileRead told another way, for texts of at most MaxBytes bytes.
func fileSaid(text string) impl.FileOut {
	w := &fileWalk{text: text}
	w.char(74)
	w.char(49)
	var p impl.Program
	for range w.howMany(6) {
		f := impl.Func{Args: w.number()}
		f.Locals = w.number()
		for range w.howMany(60) {
			op := w.number()
			f.Code = append(f.Code, ins(op, w.number()))
		}
		p.Funcs = append(p.Funcs, f)
	}
	begin := w.at
	sum := w.number()
	if w.out.Code == impl.OK && sum != sumOf(text[:begin]) {
		w.wrong(begin, impl.ErrSyntax)
	}
	if w.at < len(text) {
		w.wrong(w.at, impl.ErrSyntax)
	}
	if w.out.Code == impl.OK {
		w.wrong(0, impl.Verify(p).Code)
	}
	if w.out.Code == impl.OK {
		w.out.Program = p
	}
	return w.out
}

// Each byte another one, gone, or twice: by its sum no such text is taken for a program's.
func TestFileOtherBytes(t *testing.T) {
	for what, p := range filePrograms(t) {
		text := impl.FileBytes(p)
		if len(text) > 200 {
			continue
		}
		for at := range len(text) {
			for b := range 256 {
				other := text[:at] + string([]byte{byte(b)}) + text[at+1:]
				want := fileSaid(other)
				fileIs(t, what+" with another byte", other, want)
				if (want.Code == impl.OK) != (other == text) {
					t.Errorf("%s with the byte %d at %d: code %d", what, b, at, want.Code)
				}
			}
			gone := text[:at] + text[at+1:]
			fileIs(t, what+" without a byte", gone, fileSaid(gone))
			twice := text[:at] + text[at:at+1] + text[at:]
			fileIs(t, what+" with a byte twice", twice, fileSaid(twice))
		}
	}
}

// Some numbers of a program are thrown anew, the sum being the one of these: all that is told is then told by what was read.
func TestThrownFiles(t *testing.T) {
	d := &dice{u: 6}
	numbers := append(sampleNumbers()[:60], edgeArgs()...)
	seen := map[int64]int{}
	for range 20000 {
		parts := partsOf(threeFuncs())
		if d.below(2) == 0 {
			parts = partsOf(thrownProgram(t, d))
		}
		for range 1 + d.below(3) {
			k := 2 + d.below(len(parts)-2)
			parts[k] = bytesOf(numbers[d.below(len(numbers))])
			if d.below(3) == 0 {
				parts[k] = bytesOf(int64(d.below(8)))
			}
		}
		if d.below(8) > 0 {
			parts = summed(parts, len(parts)-1)
		}
		text := textOf(parts)
		want := fileSaid(text)
		seen[want.Code]++
		fileIs(t, "a thrown text", text, want)
	}
	for _, code := range []int64{impl.OK, impl.ErrForm, impl.ErrSyntax, impl.ErrShort, impl.ErrStack, impl.ErrFlow} {
		if seen[code] < 20 {
			t.Errorf("only %d thrown texts with code %d were looked at", seen[code], code)
		}
	}
}

func TestFileKeepsNothing(t *testing.T) {
	p := threeFuncs()
	text := impl.FileBytes(p)
	samePrograms(t, "behind FileBytes", p, threeFuncs(), true)
	got := impl.FileRead(text).Program
	again := impl.FileRead(text).Program
	for f := range got.Funcs {
		for at := range got.Funcs[f].Code {
			got.Funcs[f].Code[at] = ins(77, 77)
		}
		_ = append(got.Funcs[f].Code, ins(78, 78))
		got.Funcs[f] = impl.Func{}
	}
	samePrograms(t, "a program read ahead", again, threeFuncs(), true)
	impl.FileRead("J1\x0e")
	fileIs(t, "a text read again", text, impl.FileOut{Program: threeFuncs()})
	for f := range again.Funcs {
		_ = append(again.Funcs[f].Code, ins(78, 78))
	}
	samePrograms(t, "a program whose lists grow", again, threeFuncs(), true)
}

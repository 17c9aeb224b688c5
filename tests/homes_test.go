package tests

import (
	"fmt"
	"math"
	"slices"
	"strconv"
	"strings"
	"testing"

	"loop.example/g00219/impl"
)

// homesRead reads homes, a word each: r and the number of a register, m and the slot whose cell it is, or - for none;
// the slots behind the last word have none.
func homesRead(t *testing.T, text string, slots int64) []int64 {
	t.Helper()
	l := slices.Repeat(nums(-1), int(slots))
	for slot, word := range strings.Fields(text) {
		if word == "-" {
			continue
		}
		n, err := strconv.ParseInt(word[1:], 10, 64)
		if err != nil {
			t.Fatal(err)
		}
		if word[0] == 'm' {
			n += impl.Regs
		}
		l[slot] = n
	}
	return l
}

func slotsThere(p impl.Program, f int64) int64 {
	return p.Funcs[f].Locals + impl.MaxStack
}

// homesIs holds Homes against what is wanted; no answer shares memory with another one, and the program stays as it is.
func homesIs(t *testing.T, what string, p impl.Program, f int64, regs int64, want []int64) {
	t.Helper()
	program := copyProgram(p)
	got := impl.Homes(p, f, regs)
	if !slices.Equal(got, want) {
		t.Errorf("Homes of function %d of %s with %d registers:\n got %d\nwant %d", f, what, regs, got, want)
	}
	again := impl.Homes(p, f, regs)
	for at := range got[:cap(got)] {
		got[:cap(got)][at] = -7
	}
	if !slices.Equal(again, want) || !slices.Equal(impl.Homes(p, f, regs), want) {
		t.Errorf("Homes of function %d of %s with %d registers, asked again: got %d", f, what, regs, again)
	}
	if !impl.ProgramSame(p, program) {
		t.Errorf("Homes of %s changed the program", what)
	}
}

// homesRightIs holds HomesRight against what is wanted; the program and the list stay as they are.
func homesRightIs(t *testing.T, what string, p impl.Program, f int64, l []int64, want bool) {
	t.Helper()
	program, list := copyProgram(p), slices.Clone(l)
	for range 2 {
		if got := impl.HomesRight(p, f, l); got != want {
			t.Errorf("HomesRight of function %d of %s, of %d: got %v, want %v", f, what, l, got, want)
		}
	}
	if !slices.Equal(l, list) {
		t.Errorf("HomesRight of %s changed the list", what)
	}
	if !impl.ProgramSame(p, program) {
		t.Errorf("HomesRight of %s changed the program", what)
	}
}

func allRegs() []int64 {
	return nums(0, 1, 2, 3, 4, 5, 6)
}

func strangeRegs() []int64 {
	return nums(math.MinInt64, -1<<32, -256, -2, -1, 7, 8, 22, 256, 262, 1<<32, 1<<32+1, math.MaxInt64)
}

func cover(r impl.Range, at int64) bool {
	return at >= r.From && at <= r.To
}

// nextBegun is the place in l of the next one to be given a home: the least one by its beginning, its end, and its slot.
func nextBegun(l []impl.Range) int {
	next := 0
	for k, r := range l {
		n := l[next]
		if slices.Compare(nums(r.From, r.To, r.Slot), nums(n.From, n.To, n.Slot)) < 0 {
			next = k
		}
	}
	return next
}

// homesSaid are the homes a second way: register by register each place has at most one slot.
func homesSaid(ranges []impl.Range, slots int64, regs int64) []int64 {
	homes := slices.Repeat(nums(-1), int(slots))
	has := map[[2]int64]bool{}
	left := slices.Clone(ranges)
	for len(left) > 0 {
		next := nextBegun(left)
		r := left[next]
		left = slices.Delete(left, next, next+1)
		homes[r.Slot] = impl.Regs + r.Slot
		for register := regs - 1; register >= 0; register-- {
			free := true
			for at := r.From; at <= r.To; at++ {
				free = free && !has[[2]int64{register, at}]
			}
			if free {
				homes[r.Slot] = register
			}
		}
		for at := r.From; at <= r.To; at++ {
			has[[2]int64{homes[r.Slot], at}] = true
		}
	}
	return homes
}

// homesRightSaid is HomesRight a second way: at each place each loc has at most one slot.
func homesRightSaid(ranges []impl.Range, slots int64, l []int64) bool {
	if int64(len(l)) != slots || slices.Min(l) < -1 || slices.Max(l) > 21 {
		return false
	}
	for at := range int64(impl.MaxCode) {
		found := map[int64]int{-1: 1}
		for _, r := range ranges {
			if cover(r, at) {
				found[l[r.Slot]]++
			}
		}
		for _, n := range found {
			if n > 1 {
				return false
			}
		}
	}
	return true
}

// promiseTwelve, of one function: the homes that are given are right; slots that share one are never live at one place.
// It answers how many pairs of slots share one.
func promiseTwelve(t *testing.T, what string, p impl.Program, f int64, regs int64) int {
	t.Helper()
	homes := impl.Homes(p, f, regs)
	homesRightIs(t, "homes that were given, of "+what, p, f, homes, true)
	shared := 0
	for a := range homes {
		for b := range a {
			if homes[a] == -1 || homes[a] != homes[b] {
				continue
			}
			shared++
			for at, set := range impl.Live(p, f) {
				if set>>a&1 == 1 && set>>b&1 == 1 {
					t.Errorf("function %d of %s with %d registers: at %d slots %d and %d are live, and share %d", f, what, regs, at, b, a, homes[a])
				}
			}
		}
	}
	for at, set := range impl.Live(p, f) {
		for slot := range homes {
			if set>>slot&1 == 1 && homes[slot] == -1 {
				t.Errorf("function %d of %s with %d registers: at %d slot %d is live, and has no home", f, what, regs, at, slot)
			}
		}
	}
	return shared
}

// heldHomes holds the homes of each function of a right program, with each number of registers, against the second way.
// It answers how many pairs of slots share one.
func heldHomes(t *testing.T, said map[int64]opSaid, what string, p impl.Program) int {
	t.Helper()
	shared := 0
	for f := range int64(len(p.Funcs)) {
		ranges := liveWaysOf(said, p, f).ranges()
		for _, regs := range allRegs() {
			want := homesSaid(ranges, slotsThere(p, f), regs)
			if !homesRightSaid(ranges, slotsThere(p, f), want) {
				t.Fatalf("the second way gives homes that are not right to function %d of %s: %d", f, what, want)
			}
			homesIs(t, what, p, f, regs, want)
			shared += promiseTwelve(t, what, p, f, regs)
		}
		homesIs(t, what, p, f, -1, nil)
		homesIs(t, what, p, f, impl.Regs+1, nil)
	}
	return shared
}

func TestHomesConstants(t *testing.T) {
	if impl.Regs != 6 || impl.MaxLocs != 22 {
		t.Errorf("got %d registers and %d locs", impl.Regs, impl.MaxLocs)
	}
}

// homesCase has the ranges of a function, and its homes by how many registers there are, as homesRead reads them.
type homesCase struct {
	what   string
	args   int64
	locals int64
	code   string
	ranges string
	homes  []string
}

func homesCases() []homesCase {
	loop := "m0 m1 m2 m3; r0 m1 m2 m3; r0 r1 m2 m3; r0 r1 r2 m3; r0 r1 r2 r3"
	follow := "m0 m1 m2; r0 m1 r0; r0 r1 r0"
	meet := "m0 m1 m2; r0 m1 m2; r0 m1 r1; r0 r2 r1"
	ends := "m0 m1 m2; m0 r0 r0; r1 r0 r0"
	alike := "m0 m1 m2; r0 m1 m2; r0 r1 m2; r0 r1 r2"
	again := "m0 m1 m2 m3 m4 m5 m6; r0 m1 m2 m3 m4 r0 m6; r0 m1 r1 m3 r1 r0 m6; r0 r2 r1 m3 r1 r0 r2; r0 r2 r1 r3 r1 r0 r2"
	within := "m0 m1; r0 m1; r0 r1"
	inner := "m0 m1 m2 m3; r0 m1 r0 m3; r0 m1 r0 r1; r0 r2 r0 r1"
	alone := "m0 - m2; r0 - r0"
	return []homesCase{
		{"a loop", 1, 2, "load 0; jz 11; load 1; load 0; add; store 1; load 0; push 1; sub; store 0; jump 0; load 1; ret",
			"0:0-10 1:0-11 2:1-12 3:4-9", strings.Split(loop, ";")},
		{"a range that begins next to where another one ends", 1, 2, "load 0; store 1; load 1; ret",
			"0:0-0 1:2-2 2:1-3", strings.Split(follow, ";")},
		{"ranges that meet in one place alone", 1, 2, "load 0; store 1; load 0; out; load 1; ret",
			"0:0-2 1:2-4 2:1-5", strings.Split(meet, ";")},
		{"ranges that begin at one place and end at another one", 2, 2, "load 1; out; load 0; ret",
			"0:0-2 1:0-0 2:1-3", strings.Split(ends, ";")},
		{"ranges that are alike", 2, 2, "load 0; out; load 1; out; jump 0",
			"0:0-4 1:0-4 2:1-4", strings.Split(alike, ";")},
		{"registers that are free again, the least one first", 4, 5, "load 0; out; load 2; out; push 5; store 4; load 1; load 3; add; load 4; add; ret",
			"0:0-0 1:0-6 2:0-2 3:0-7 4:6-9 5:1-11 6:8-11", strings.Split(again, ";")},
		{"a range that ends where the last one begins", 0, 0, "push 3; dup; ret",
			"0:1-2 1:2-2", strings.Split(within, ";")},
		{"ranges within others", 1, 2, "load 0; push 7; neg; store 1; load 1; add; ret",
			"0:0-0 1:4-4 2:1-6 3:2-6", strings.Split(inner, ";")},
		{"a slot that has no range, and one behind it", 1, 2, "load 0; out; push 1; ret",
			"0:0-0 2:1-3", strings.Split(alone, ";")},
		{"no locals", 0, 0, "push 1; ret", "0:1-1", []string{"m0", "r0"}},
		{"no locals and no range", 0, 0, "jump 0", "", []string{""}},
		{"locals and no range", 4, 8, "jump 0", "", []string{""}},
	}
}

// homesOf are those of a case with so many registers: with more than are told the same as with the most that are.
func (c homesCase) homesOf(t *testing.T, regs int64) []int64 {
	t.Helper()
	text := c.homes[min(int(regs), len(c.homes)-1)]
	return homesRead(t, text, c.locals+impl.MaxStack)
}

func TestHomesByHand(t *testing.T) {
	said := saidOf(t)
	for _, c := range homesCases() {
		lone := programOf(funcOf(t, c.args, c.locals, c.code))
		verifyIs(t, c.what, lone, impl.VerifyOut{})
		rangesIs(t, c.what, lone, 0, rangesOf(t, c.ranges))
		// The same function among others.
		p := programOf(lone.Funcs[0], good(t), lone.Funcs[0])
		for _, regs := range allRegs() {
			homesIs(t, c.what, lone, 0, regs, c.homesOf(t, regs))
			homesIs(t, c.what, p, 2, regs, c.homesOf(t, regs))
		}
		for _, regs := range strangeRegs() {
			homesIs(t, c.what, lone, 0, regs, nil)
			homesIs(t, c.what, p, 2, regs, nil)
		}
		homesIs(t, "one beside "+c.what, p, 1, 1, homesRead(t, "r0", slotsThere(p, 1)))
		heldHomes(t, said, c.what, p)
	}
}

// More slots at once than there are registers; the last of them has the last loc.
func TestHomesOfMostSlots(t *testing.T) {
	p := mostSlots(t)
	for _, regs := range allRegs() {
		var want []int64
		for slot := range int64(16) {
			loc := impl.Regs + slot
			if slot < regs {
				loc = slot
			}
			want = append(want, loc)
		}
		if want[15] != impl.MaxLocs-1 {
			t.Errorf("the last loc is %d", want[15])
		}
		homesIs(t, "the most slots", p, 0, regs, want)
	}
	heldHomes(t, saidOf(t), "the most slots", p)
}

// A stack that is filled and emptied again: what is put later ends sooner.
func TestHomesAtEachHeight(t *testing.T) {
	for _, locals := range nums(0, 1, 3, 8) {
		p := programOf(funcOf(t, 0, locals, times(8, "push 1")+times(7, "add")+"ret"))
		for _, regs := range allRegs() {
			want := slices.Repeat(nums(-1), int(locals+8))
			for k := range int64(8) {
				want[locals+k] = impl.Regs + locals + k
				if k < regs {
					want[locals+k] = k
				}
			}
			homesIs(t, fmt.Sprint("a full stack behind ", locals, " locals"), p, 0, regs, want)
		}
		heldHomes(t, saidOf(t), "a full stack", p)
	}
}

// Many ranges that follow one another share one register.
func TestHomesOfLongCode(t *testing.T) {
	p := programOf(funcOf(t, 1, 8, "load 0; store 1; load 1; store 2; load 2; store 3; load 3; store 4; load 4; store 5; load 5; store 6; load 6; store 7; load 7; ret"))
	rangesIs(t, "stores that follow one another", p, 0, rangesOf(t, "0:0-0 1:2-2 2:4-4 3:6-6 4:8-8 5:10-10 6:12-12 7:14-14 8:1-15"))
	homesIs(t, "stores that follow one another", p, 0, 0, homesRead(t, "m0 m1 m2 m3 m4 m5 m6 m7 m8", 16))
	homesIs(t, "stores that follow one another", p, 0, 1, homesRead(t, "r0 m1 m2 m3 m4 m5 m6 m7 r0", 16))
	homesIs(t, "stores that follow one another", p, 0, 2, homesRead(t, "r0 r1 r1 r1 r1 r1 r1 r1 r0", 16))
	homesIs(t, "stores that follow one another", p, 0, 6, homesRead(t, "r0 r1 r1 r1 r1 r1 r1 r1 r0", 16))
	heldHomes(t, saidOf(t), "stores that follow one another", p)
	long := programOf(funcOf(t, 1, 1, "push 0; "+times(57, "neg")+"load 0; ret"))
	rangesIs(t, "the longest code", long, 0, rangesOf(t, "0:0-58 1:1-58 2:59-59"))
	homesIs(t, "the longest code", long, 0, 6, homesRead(t, "r0 r1 r0", 9))
	homesIs(t, "the longest code", long, 0, 1, homesRead(t, "r0 m1 r0", 9))
	heldHomes(t, saidOf(t), "the longest code", long)
}

// listCase is a list of homes of the function of TestHomesRight, as homesRead reads it, and whether it is right.
type listCase struct {
	what string
	text string
	want bool
}

// The function there has the ranges 0:0-0 2:1-3, and none of slot 1, nor of 3 to 9.
func listCases() []listCase {
	return []listCase{
		{"each slot in its own cell", "m0 m1 m2", true},
		{"one register for both that follow one another", "r0 - r0", true},
		{"the last register", "r5 - r5", true},
		{"the first cell", "m0 - m0", true},
		{"the last cell", "m15 - m15", true},
		{"other locs than Homes gives", "m9 - r3", true},
		{"a slot without a range that has a loc", "r0 r4 r0", true},
		{"a slot without a range that has the loc of one with a range", "r0 r0 r1", true},
		{"two slots without a range that have the same loc", "r0 r2 r1 r2", true},
		{"all slots with one loc", strings.Repeat("r0 ", 10), true},
		{"all slots with the last loc", strings.Repeat("m15 ", 10), true},
		{"the first slot with a range has no loc", "- r1 r0", false},
		{"the last slot with a range has no loc", "r0 r1 -", false},
		{"no slot has a loc", "", false},
		{"a loc below -1 of a slot with a range", "r-2 - r0", false},
		{"a loc below -1 of a slot without a range", "r0 r-2 r0", false},
		{"a loc below -1 of the last slot", "r0 - r0 - - - - - - r-2", false},
		{"a loc of MaxLocs of a slot with a range", "r0 - m16", false},
		{"a loc of MaxLocs of a slot without a range", "r0 m16 r0", false},
		{"a loc of MaxLocs of the last slot", "r0 - r0 - - - - - - m16", false},
		{"the least number", "r-9223372036854775808 - r0", false},
		{"the greatest number", "r0 - r0 - - - - - - r9223372036854775807", false},
		{"a loc that is 0 by its lowest bits", "r0 r4294967296 r0", false},
		{"a loc that is -1 by its lowest bits", "r0 r4294967295 r0", false},
	}
}

func TestHomesRight(t *testing.T) {
	p := programOf(funcOf(t, 1, 2, "load 0; out; push 1; ret"))
	rangesIs(t, "one arg and one local", p, 0, rangesOf(t, "0:0-0 2:1-3"))
	for _, c := range listCases() {
		l := homesRead(t, c.text, slotsThere(p, 0))
		homesRightIs(t, c.what, p, 0, l, c.want)
		// Whether it is right or not: with another length it is not.
		homesRightIs(t, c.what+", one shorter", p, 0, l[:9], false)
		homesRightIs(t, c.what+", one longer", p, 0, append(slices.Clone(l), -1), false)
		homesRightIs(t, c.what+", one longer with a loc", p, 0, append(slices.Clone(l), 20), false)
		homesRightIs(t, c.what+", with room behind it", p, 0, append(slices.Clone(l), 1, 2, 3)[:10], c.want)
	}
}

// longList has the given homes at its beginning, and no more locs.
func longList(homes []int64, length int) []int64 {
	return append(slices.Clone(homes), slices.Repeat(nums(-1), length-len(homes))...)
}

func TestHomesRightLengths(t *testing.T) {
	for _, locals := range nums(0, 1, 7, 8) {
		for _, text := range []string{"push 1; ret", "jump 0"} {
			p := programOf(funcOf(t, 0, locals, text))
			homes := impl.Homes(p, 0, impl.Regs)
			for length := range 24 {
				l := longList(homes, max(length, len(homes)))[:length]
				homesRightIs(t, fmt.Sprint(text, " with ", locals, " locals"), p, 0, l, int64(length) == locals+8)
			}
			for _, length := range []int{impl.MaxList - 1, impl.MaxList, impl.MaxList + 1, 2 * impl.MaxList, 1<<16 + len(homes)} {
				homesRightIs(t, "a long list", p, 0, longList(homes, length), false)
			}
			homesRightIs(t, "no list", p, 0, nil, false)
			homesRightIs(t, "an empty list", p, 0, []int64{}, false)
		}
	}
}

// othersThan are homes of which no two are alike, and none is that loc.
func othersThan(loc int64, slots int64) []int64 {
	var l []int64
	for n := int64(0); int64(len(l)) < slots; n++ {
		if n != loc {
			l = append(l, n)
		}
	}
	return l
}

// Ranges that meet may not share a loc, whichever it is; those that do not meet may.
func TestSharedLocs(t *testing.T) {
	for _, c := range homesCases() {
		p := programOf(funcOf(t, c.args, c.locals, c.code))
		ranges := rangesOf(t, c.ranges)
		for a, one := range ranges {
			for _, other := range ranges[:a] {
				meet := max(one.From, other.From) <= min(one.To, other.To)
				for loc := range int64(impl.MaxLocs) {
					l := othersThan(loc, slotsThere(p, 0))
					l[one.Slot], l[other.Slot] = loc, loc
					if homesRightSaid(ranges, int64(len(l)), l) == meet {
						t.Fatalf("%s: %d of slots %d and %d", c.what, l, one.Slot, other.Slot)
					}
					homesRightIs(t, c.what, p, 0, l, !meet)
				}
			}
		}
	}
}

// Each pair of slots with each pair of numbers from below -1 to above the last loc.
func TestEveryTwoHomes(t *testing.T) {
	p := programOf(funcOf(t, 1, 2, "load 0; store 1; load 0; out; load 1; ret"))
	ranges := rangesOf(t, "0:0-2 1:2-4 2:1-5")
	first := impl.Homes(p, 0, 2)
	for a := range first {
		for b := range a {
			for x := int64(-3); x <= impl.MaxLocs+1; x++ {
				for y := int64(-3); y <= impl.MaxLocs+1; y++ {
					l := slices.Clone(first)
					l[a], l[b] = x, y
					if want := homesRightSaid(ranges, int64(len(l)), l); impl.HomesRight(p, 0, l) != want {
						t.Fatalf("HomesRight of %d: want %v", l, want)
					}
				}
			}
		}
	}
}

// noHomes: of such a function of such a program there are none, and none are right.
func noHomes(t *testing.T, what string, p impl.Program, f int64) {
	t.Helper()
	for _, regs := range append(strangeRegs(), allRegs()...) {
		homesIs(t, what, p, f, regs, nil)
	}
	lists := [][]int64{nil, {}, nums(0)}
	for locals := range int64(9) {
		lists = append(lists, slices.Repeat(nums(-1), int(locals+8)))
		own := make([]int64, locals+8)
		for slot := range own {
			own[slot] = impl.Regs + int64(slot)
		}
		lists = append(lists, own)
	}
	lists = append(lists, make([]int64, impl.MaxList), make([]int64, impl.MaxList+1))
	for _, l := range lists {
		homesRightIs(t, what, p, f, l, false)
	}
}

func TestNoHomesInWrongPrograms(t *testing.T) {
	ofWrongPrograms(t, noHomes)
	// As many locals as no list can have, and fewer than none.
	for _, locals := range nums(math.MaxInt64, math.MinInt64, 1<<32, -1, -8, -9, 9) {
		noHomes(t, fmt.Sprint("a program of ", locals, " locals"), programOf(funcOf(t, 0, locals, "push 1; ret")), 0)
	}
	noHomes(t, "a program of far too many", programOf(slices.Repeat(summing(t).Funcs, impl.MaxList+1)...), 0)
}

func TestNoHomesOfNoFunction(t *testing.T) {
	ofNoFunction(t, noHomes)
	p := programOf(slices.Repeat(summing(t).Funcs, impl.MaxFuncs)...)
	for f := range int64(impl.MaxFuncs) {
		homesIs(t, "a program of several", p, f, impl.Regs, homesRead(t, "r0 r1 r2 r3", 10))
		homesRightIs(t, "a program of several", p, f, homesRead(t, "r0 r1 r2 r3", 10), true)
		homesRightIs(t, "a program of several", p, f, homesRead(t, "r0 r1 r2 r0", 10), false)
	}
}

// Homes that are right for one function need not be so for another one.
func TestHomesOfAnotherFunction(t *testing.T) {
	p := programOf(
		funcOf(t, 2, 2, "load 1; out; load 0; ret"),
		funcOf(t, 2, 2, "load 0; out; load 1; out; jump 0"),
		funcOf(t, 2, 3, "load 1; out; load 0; ret"),
		funcOf(t, 0, 2, "push 1; ret"),
	)
	l := homesRead(t, "r1 r0 r0", 10)
	for f, want := range []bool{true, false, false, true} {
		homesRightIs(t, "four functions", p, int64(f), l, want)
	}
	for f, want := range []string{"r1 r0 r0", "r0 r1 r2", "r1 r0 - r0", "- - r0"} {
		homesIs(t, "four functions", p, int64(f), impl.Regs, homesRead(t, want, slotsThere(p, int64(f))))
	}
}

// changedHomes are homes of which one or two are others, so that they may still be right.
func changedHomes(d *dice, homes []int64, ranges []impl.Range) []int64 {
	l := slices.Clone(homes)
	some := func() int64 {
		if len(ranges) == 0 || d.below(4) == 0 {
			return int64(d.below(len(l)))
		}
		return ranges[d.below(len(ranges))].Slot
	}
	for range 1 + d.below(2) {
		switch d.below(6) {
		case 0, 1:
			l[some()] = l[some()]
		case 2, 3:
			l[some()] = int64(d.below(impl.MaxLocs))
		case 4:
			l[some()] = int64(d.below(26)) - 2
		case 5:
			a, b := some(), some()
			l[a], l[b] = l[b], l[a]
		}
	}
	return l
}

// Promise 12, of thrown programs; homes that are changed are right just where the second way says so.
func TestThrownHomes(t *testing.T) {
	said := saidOf(t)
	d := &dice{u: 13}
	shared, rights, wrongs := 0, 0, 0
	for k := range 400 {
		ops := opsSaid(t)
		if k%2 == 0 {
			ops = jumpyOps(t)
		}
		p := thrownRight(t, d, ops)
		shared += heldHomes(t, said, "a thrown program", p)
		for f := range int64(len(p.Funcs)) {
			ranges := liveWaysOf(said, p, f).ranges()
			for range 20 {
				l := changedHomes(d, impl.Homes(p, f, int64(d.below(7))), ranges)
				want := homesRightSaid(ranges, slotsThere(p, f), l)
				homesRightIs(t, "changed homes", p, f, l, want)
				rights += int(yes(want))
				wrongs += int(yes(!want))
			}
		}
	}
	if shared < 1000 || rights < 1000 || wrongs < 1000 {
		t.Errorf("only %d pairs that share one, %d right lists and %d others", shared, rights, wrongs)
	}
}

// Promise 12, of the functions by hand of the chapter ahead, and of longer runs.
func TestHomesOfOtherPrograms(t *testing.T) {
	said := saidOf(t)
	for _, c := range slices.Concat(flowCases(), straightCases(), edgeCases()) {
		heldHomes(t, said, c.what, programOf(funcOf(t, c.args, c.locals, c.code)))
	}
	for what, p := range filePrograms(t) {
		heldHomes(t, said, what, p)
	}
	heldHomes(t, said, "functions that call one another", nested(t))
}

// Each function of up to three instructions of a few kinds.
func TestHomesOfShortFunctions(t *testing.T) {
	said := saidOf(t)
	kinds := codeOf(t, "push 4; load 0; load 1; store 0; store 1; dup; pop; add; neg; jump 0; jump 2; jz 0; out")
	looked, shared := 0, 0
	look := func(code ...impl.Ins) {
		p := programOf(impl.Func{Args: 0, Locals: 2, Code: append(slices.Clone(code), ins(impl.OpPush, 1), ins(impl.OpRet, 0))})
		if impl.Verify(p).Code == impl.OK {
			looked++
			shared += heldHomes(t, said, fmt.Sprint(code), p)
		}
	}
	for _, a := range kinds {
		look(a)
		for _, b := range kinds {
			look(a, b)
			for _, c := range kinds {
				look(a, b, c)
			}
		}
	}
	if looked < 200 || shared < 200 {
		t.Errorf("only %d short functions were looked at, and %d pairs shared a home", looked, shared)
	}
}

// The same is answered again, whatever was asked in between.
func TestHomesKeepNothing(t *testing.T) {
	p := summing(t)
	first := impl.Homes(p, 0, 2)
	for range 3 {
		other := nested(t)
		impl.Homes(other, 1, 6)
		impl.Homes(p, 0, 6)
		impl.HomesRight(other, 1, impl.Homes(other, 1, 0))
		impl.Homes(impl.Program{}, 0, 6)
		homesIs(t, "a program that was asked for ahead", p, 0, 2, first)
		homesRightIs(t, "a program that was asked for ahead", p, 0, first, true)
	}
}

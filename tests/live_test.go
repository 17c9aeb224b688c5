package tests

import (
	"fmt"
	"math"
	"slices"
	"strconv"
	"strings"
	"testing"

	"loop.example/g00219/impl"
)

// setsOf reads sets of slots, a word a place: each slot a digit to the base 16, or - for none.
func setsOf(t *testing.T, text string) []int64 {
	t.Helper()
	var l []int64
	for _, word := range strings.Fields(text) {
		set := int64(0)
		for _, c := range strings.Trim(word, "-") {
			slot, err := strconv.ParseInt(string(c), 16, 64)
			if err != nil {
				t.Fatal(err)
			}
			set |= 1 << slot
		}
		l = append(l, set)
	}
	return l
}

// rangesOf reads ranges, a word each: the slot, a colon, the first place, a -, and the last one.
func rangesOf(t *testing.T, text string) []impl.Range {
	t.Helper()
	var l []impl.Range
	for _, word := range strings.Fields(text) {
		var r impl.Range
		if _, err := fmt.Sscanf(word, "%d:%d-%d", &r.Slot, &r.From, &r.To); err != nil {
			t.Fatal(err)
		}
		l = append(l, r)
	}
	return l
}

// liveIs holds Live against what is wanted; no answer shares memory with another one, and the program stays as it is.
func liveIs(t *testing.T, what string, p impl.Program, f int64, want []int64) {
	t.Helper()
	program := copyProgram(p)
	got := impl.Live(p, f)
	if !slices.Equal(got, want) {
		t.Errorf("Live of function %d of %s:\n got %b\nwant %b", f, what, got, want)
	}
	again := impl.Live(p, f)
	for at := range got[:cap(got)] {
		got[:cap(got)][at] = -7
	}
	if !slices.Equal(again, want) {
		t.Errorf("Live of function %d of %s, asked again: got %b", f, what, again)
	}
	if !impl.ProgramSame(p, program) {
		t.Errorf("Live of %s changed the program", what)
	}
}

// rangesIs does the same for Ranges.
func rangesIs(t *testing.T, what string, p impl.Program, f int64, want []impl.Range) {
	t.Helper()
	program := copyProgram(p)
	got := impl.Ranges(p, f)
	if !slices.Equal(got, want) {
		t.Errorf("Ranges of function %d of %s:\n got %+v\nwant %+v", f, what, got, want)
	}
	again := impl.Ranges(p, f)
	for at := range got[:cap(got)] {
		got[:cap(got)][at] = impl.Range{Slot: -7, From: -7, To: -7}
	}
	if !slices.Equal(again, want) {
		t.Errorf("Ranges of function %d of %s, asked again: got %+v", f, what, again)
	}
	if !impl.ProgramSame(p, program) {
		t.Errorf("Ranges of %s changed the program", what)
	}
}

func slotsIs(t *testing.T, what string, p impl.Program, f int64, at int64, want int64) {
	t.Helper()
	program := copyProgram(p)
	if got := impl.Slots(p, f, at); got != want {
		t.Errorf("Slots at %d of function %d of %s: got %d, want %d", at, f, what, got, want)
	}
	if !impl.ProgramSame(p, program) {
		t.Errorf("Slots of %s changed the program", what)
	}
}

// farNumbers are those of no function and no place.
func farNumbers() []int64 {
	return nums(math.MinInt64, -1<<32, -256, -2, -1, 60, 61, 64, 256, 1<<32, 1<<32+1, math.MaxInt64)
}

// noneAsked: of such a function of such a program all three answer nothing.
func noneAsked(t *testing.T, what string, p impl.Program, f int64) {
	t.Helper()
	liveIs(t, what, p, f, nil)
	rangesIs(t, what, p, f, nil)
	for _, at := range append(farNumbers(), 0, 1, 2, 3) {
		slotsIs(t, what, p, f, at, 0)
	}
}

// liveWays are the functions of chapter 9 a second way: by going every way from a place, for one slot at a time.
type liveWays struct {
	said    map[int64]opSaid
	p       impl.Program
	f       int64
	heights []int64
}

func liveWaysOf(said map[int64]opSaid, p impl.Program, f int64) liveWays {
	return liveWays{said: said, p: p, f: f, heights: heightsOf(said, p)[f]}
}

func (w liveWays) slots(at int64) int64 {
	if w.heights[at] == -1 {
		return 0
	}
	return w.p.Funcs[w.f].Locals + w.heights[at]
}

func (w liveWays) ins(at int64) impl.Ins {
	return w.p.Funcs[w.f].Code[at]
}

// taken: is the slot one of those that are taken there?
func (w liveWays) taken(at int64, slot int64) bool {
	takes, _ := stackOf(w.said, w.p, w.ins(at))
	return slot < w.slots(at) && slot >= w.slots(at)-takes
}

func (w liveWays) put(at int64, slot int64) bool {
	takes, puts := stackOf(w.said, w.p, w.ins(at))
	first := w.slots(at) - takes
	return slot >= first && slot < first+puts
}

func (w liveWays) reads(at int64, slot int64) bool {
	if w.ins(at).Op == impl.OpLoad {
		return slot == w.ins(at).A
	}
	return w.taken(at, slot)
}

func (w liveWays) writes(at int64, slot int64) bool {
	if w.ins(at).Op == impl.OpStore {
		return slot == w.ins(at).A
	}
	return w.put(at, slot) || w.taken(at, slot)
}

// live: is there a way from that place on by which the slot is read ahead of its being written?
func (w liveWays) live(at int64, slot int64, been map[int64]int) bool {
	if been[at]++; been[at] > 1 || slot >= w.slots(at) {
		return false
	}
	if w.reads(at, slot) {
		return true
	}
	if w.writes(at, slot) {
		return false
	}
	for _, to := range wentOn(w.ins(at), at) {
		if w.live(to, slot, been) {
			return true
		}
	}
	return false
}

func (w liveWays) sets() []int64 {
	l := make([]int64, len(w.heights))
	for at := range l {
		for slot := range int64(16) {
			l[at] |= yes(w.live(int64(at), slot, map[int64]int{})) << slot
		}
	}
	return l
}

func (w liveWays) ranges() []impl.Range {
	sets := w.sets()
	var l []impl.Range
	for slot := range int64(16) {
		var places []int64
		for at := range int64(len(sets)) {
			if sets[at]>>slot&1 == 1 {
				places = append(places, at)
			}
			if at > 0 && w.heights[at-1] != -1 && w.writes(at-1, slot) {
				places = append(places, at)
			}
		}
		if len(places) > 0 {
			l = append(l, impl.Range{Slot: slot, From: slices.Min(places), To: slices.Max(places)})
		}
	}
	return l
}

// Promise 11, of one function: where a slot is live lies in its range; and ranges rise, and lie in the code.
func promiseEleven(t *testing.T, what string, p impl.Program, f int64) {
	t.Helper()
	spans := map[int64]impl.Range{}
	last := int64(-1)
	for _, r := range impl.Ranges(p, f) {
		if r.Slot <= last || r.Slot >= p.Funcs[f].Locals+impl.MaxStack || r.From < 0 || r.From > r.To || r.To >= int64(len(p.Funcs[f].Code)) {
			t.Errorf("%s: %+v stands wrong in %+v", what, r, impl.Ranges(p, f))
		}
		last = r.Slot
		spans[r.Slot] = r
	}
	for at, set := range impl.Live(p, f) {
		if set < 0 || set >= 1<<impl.Slots(p, f, int64(at)) {
			t.Errorf("%s: at place %d a slot is live that is not there: %b", what, at, set)
		}
		for slot := range int64(16) {
			r, has := spans[slot]
			if set>>slot&1 == 1 && (!has || int64(at) < r.From || int64(at) > r.To) {
				t.Errorf("%s: slot %d is live at %d, which does not lie in %+v", what, slot, at, r)
			}
		}
	}
}

// heldLive holds all three of each function of a right program against the second way.
func heldLive(t *testing.T, said map[int64]opSaid, what string, p impl.Program) {
	t.Helper()
	for f := range int64(len(p.Funcs)) {
		w := liveWaysOf(said, p, f)
		liveIs(t, what, p, f, w.sets())
		rangesIs(t, what, p, f, w.ranges())
		for at := range int64(len(w.heights)) {
			slotsIs(t, what, p, f, at, w.slots(at))
		}
		slotsIs(t, what, p, f, -1, 0)
		slotsIs(t, what, p, f, int64(len(w.heights)), 0)
		promiseEleven(t, what, p, f)
	}
}

type liveCase struct {
	what   string
	args   int64
	locals int64
	code   string
	live   string
	ranges string
}

// flowCases go several ways.
func flowCases() []liveCase {
	return []liveCase{
		{"a loop", 1, 2, "load 0; jz 11; load 1; load 0; add; store 1; load 0; push 1; sub; store 0; jump 0; load 1; ret",
			"01 012 01 02 023 02 01 12 123 12 01 1 2", "0:0-10 1:0-11 2:1-12 3:4-9"},
		{"a local that is read behind a loop alone", 2, 2, "load 0; jz 7; load 0; push 1; sub; store 0; jump 0; load 1; ret",
			"01 012 01 12 123 12 01 1 2", "0:0-6 1:0-7 2:1-8 3:4-5"},
		{"a local that is written on one way and read on both", 1, 2, "load 0; jz 4; push 5; store 1; load 1; ret",
			"01 12 - 2 1 2", "0:0-0 1:0-4 2:1-5"},
		{"a local that is written on both ways", 1, 2, "load 0; jz 5; push 5; store 1; jump 7; push 6; store 1; load 1; ret",
			"0 2 - 2 1 - 2 1 2", "0:0-0 1:4-7 2:1-8"},
		{"a local that is read on one way alone", 2, 2, "load 0; jz 4; load 1; ret; push 1; ret",
			"01 12 1 2 - 2", "0:0-0 1:0-2 2:1-5"},
		{"a local that is read by A alone", 2, 2, "load 0; jz 4; push 1; ret; load 1; ret",
			"01 12 - 2 1 2", "0:0-0 1:0-4 2:1-5"},
		{"a loop by jz with something below", 1, 1, "push 9; load 0; jz 1; ret",
			"0 01 012 1", "0:0-2 1:1-3 2:2-3"},
		{"a loop in which nothing is read", 2, 2, "push 1; push 2; jump 2",
			"- - -", "2:1-1 3:2-2"},
		{"a loop that writes alone", 0, 1, "push 1; store 0; jump 0",
			"- 1 -", "0:2-2 1:1-1"},
		{"a loop that reads ahead of its write", 0, 1, "load 0; store 0; jump 0",
			"0 1 0", "0:0-2 1:1-1"},
		{"ways that go back from place to place", 1, 1, "jump 5; load 0; ret; jump 1; jump 3; jump 4",
			"0 0 1 0 0 0", "0:0-5 1:2-3"},
		{"a way back that comes by its A", 3, 3, "load 2; jz 4; load 0; ret; load 1; jz 2; jump 4",
			"012 013 0 3 01 013 01", "0:0-6 1:0-6 2:0-0 3:1-6"},
		{"a branch to the next place", 1, 1, "load 0; jz 2; load 0; ret",
			"0 01 0 1", "0:0-2 1:1-3"},
		{"a jump to the next place", 1, 1, "jump 1; load 0; ret", "0 0 1", "0:0-1 1:2-2"},
		{"a jump to itself alone", 0, 0, "jump 0", "-", ""},
		{"a jump to itself alone, with locals", 4, 8, "jump 0", "-", ""},
	}
}

// straightCases go one way.
func straightCases() []liveCase {
	return []liveCase{
		{"no locals", 0, 0, "push 1; ret", "- 0", "0:1-1"},
		{"an arg that is given back", 1, 1, "load 0; ret", "0 1", "0:0-0 1:1-1"},
		{"a slot that is live at one place alone", 1, 2, "load 0; out; push 1; ret", "0 2 - 2", "0:0-0 2:1-3"},
		{"a store to a local that is live behind it", 1, 1, "push 1; store 0; load 0; ret", "- 1 0 1", "0:2-2 1:1-3"},
		{"a store to a local that is not live behind it", 1, 1, "push 1; store 0; push 2; ret", "- 1 - 1", "0:2-2 1:1-3"},
		{"a store of what was just loaded", 1, 2, "load 0; store 0; load 0; ret", "0 2 0 2", "0:0-2 2:1-3"},
		{"two stores to one local", 0, 1, "push 1; store 0; push 2; store 0; load 0; ret", "- 1 - 1 0 1", "0:2-4 1:1-5"},
		{"a store that is the last to take a slot", 0, 1, "push 5; push 1; store 0; ret", "- 1 12 1", "0:3-3 1:1-3 2:2-2"},
		{"a pop that is the last to take a slot", 0, 0, "push 5; push 1; pop; ret", "- 0 01 0", "0:1-3 1:2-3"},
		{"a ret with more on the stack", 0, 0, "push 1; push 2; push 3; ret", "- - - 2", "0:1-1 1:2-2 2:3-3"},
		{"a ret with more on the stack, and locals", 1, 2, "load 0; load 0; load 1; ret", "01 01 1 4", "0:0-1 1:0-2 2:1-1 3:2-2 4:3-3"},
		{"a dup whose two are both asked for", 0, 0, "push 3; dup; out; ret", "- 0 01 0", "0:1-3 1:2-3"},
		{"a dup of which the new one is asked for alone", 0, 0, "push 3; dup; ret", "- 0 1", "0:1-2 1:2-2"},
		{"a dup of which nothing is asked for", 0, 0, "push 3; dup; jump 2", "- 0 -", "0:1-2 1:2-2"},
		{"a set", 0, 0, "push 1; push 2; push 3; push 4; set; ret", "- 0 01 012 0123 0", "0:1-5 1:2-5 2:3-5 3:4-5"},
		{"a get", 0, 0, "push 1; push 2; push 3; get; pop; ret", "- 0 01 012 01 0", "0:1-5 1:2-5 2:3-4"},
		{"ops that take one and put one", 1, 1, "load 0; neg; new; len; ret", "0 1 1 1 1", "0:0-0 1:1-4"},
		{"a call of itself", 2, 3, "load 1; load 0; push 7; call 0; add; ret", "01 03 34 345 34 3", "0:0-1 1:0-0 3:1-5 4:2-5 5:3-4"},
	}
}

// edgeCases have places that are not reached, and the last place.
func edgeCases() []liveCase {
	return []liveCase{
		{"places that are not reached", 0, 2, "jump 3; load 0; store 1; push 1; ret", "- - - - 2", "2:4-4"},
		{"places behind the end", 2, 2, "load 1; ret; load 0; store 0; jump 0", "1 2 - - -", "1:0-0 2:1-2"},
		{"a jump that is not reached", 2, 2, "push 1; ret; load 0; jump 0", "- 2 - -", "2:1-2"},
		{"a ret in the midst, next to which a place is reached", 0, 0, "push 7; push 0; jz 5; push 1; ret; ret", "- 0 01 - 1 0", "0:1-5 1:2-5"},
		{"a ret that is not at the last place", 0, 0, "push 1; ret; jump 0; jump 0", "- 0 - -", "0:1-2"},
		{"a ret at the last place", 0, 0, "push 1; jump 3; jump 0; ret", "- 0 - 0", "0:1-3"},
		{"a loop from the last place to the first one", 1, 2, "load 1; out; load 0; store 1; jump 0", "01 02 0 02 01", "0:0-4 1:0-4 2:1-3"},
		{"a local that is live at the last place", 1, 1, "jump 2; jump 3; jump 1; load 0; ret; jump 2", "0 0 0 0 1 -", "0:0-3 1:4-5"},
	}
}

func TestLiveByHand(t *testing.T) {
	said := saidOf(t)
	for _, c := range slices.Concat(flowCases(), straightCases(), edgeCases()) {
		lone := programOf(funcOf(t, c.args, c.locals, c.code))
		verifyIs(t, c.what, lone, impl.VerifyOut{})
		liveIs(t, c.what, lone, 0, setsOf(t, c.live))
		rangesIs(t, c.what, lone, 0, rangesOf(t, c.ranges))
		heldLive(t, said, c.what, lone)
		// The same function among others.
		p := programOf(lone.Funcs[0], good(t), lone.Funcs[0])
		liveIs(t, c.what, p, 2, setsOf(t, c.live))
		rangesIs(t, c.what, p, 2, rangesOf(t, c.ranges))
		liveIs(t, "one beside "+c.what, p, 1, nums(0, 1))
	}
}

func TestSlotsByHand(t *testing.T) {
	p := programOf(
		funcOf(t, 1, 3, "load 0; dup; push 1; set; jump 8; push 1; push 1; push 1; push 1; ret"),
		funcOf(t, 0, 0, times(8, "push 1")+"ret"),
		funcOf(t, 4, 8, times(8, "push 1")+"ret; jump 9"),
	)
	for f, want := range [][]int64{
		{3, 4, 5, 6, 3, 0, 0, 0, 3, 4, 0},
		{0, 1, 2, 3, 4, 5, 6, 7, 8, 0},
		{8, 9, 10, 11, 12, 13, 14, 15, 16, 0, 0},
	} {
		for at, n := range want {
			slotsIs(t, "three functions", p, int64(f), int64(at), n)
		}
		for _, at := range farNumbers() {
			slotsIs(t, "three functions", p, int64(f), at, 0)
		}
	}
}

// A stack that is filled and emptied again has each of its places live from where it is put to where it is taken.
func TestLiveAtEachHeight(t *testing.T) {
	for _, locals := range nums(0, 1, 3, 8) {
		p := programOf(funcOf(t, 0, locals, times(8, "push 1")+times(7, "add")+"ret"))
		var live []int64
		for at := range int64(16) {
			live = append(live, (1<<min(at, 16-at)-1)<<locals)
		}
		ranges := []impl.Range{{Slot: locals, From: 1, To: 15}}
		for k := int64(1); k < 8; k++ {
			ranges = append(ranges, impl.Range{Slot: locals + k, From: k + 1, To: 16 - k})
		}
		what := fmt.Sprint("a full stack behind ", locals, " locals")
		liveIs(t, what, p, 0, live)
		rangesIs(t, what, p, 0, ranges)
		heldLive(t, saidOf(t), what, p)
	}
}

// mostSlots is a function in which all slots that there can be are live at one place.
func mostSlots(t *testing.T) impl.Program {
	t.Helper()
	text := times(8, "push 1") + times(8, "out")
	for k := range 8 {
		text += fmt.Sprintf("load %d; ", k)
	}
	return programOf(funcOf(t, 4, 8, text+"set; set; pop; ret"))
}

// All locals that there may be, and all places of the stack, are live at one place.
func TestMostSlots(t *testing.T) {
	p := mostSlots(t)
	live := nums(0x00ff, 0x01ff, 0x03ff, 0x07ff, 0x0fff, 0x1fff, 0x3fff, 0x7fff,
		0xffff, 0x7fff, 0x3fff, 0x1fff, 0x0fff, 0x07ff, 0x03ff, 0x01ff,
		0x00ff, 0x01fe, 0x03fc, 0x07f8, 0x0ff0, 0x1fe0, 0x3fc0, 0x7f80,
		0xff00, 0x1f00, 0x0300, 0x0100)
	liveIs(t, "the most slots", p, 0, live)
	rangesIs(t, "the most slots", p, 0, rangesOf(t, "0:0-16 1:0-17 2:0-18 3:0-19 4:0-20 5:0-21 6:0-22 7:0-23 "+
		"8:1-27 9:2-27 10:3-26 11:4-26 12:5-26 13:6-25 14:7-25 15:8-25"))
	slotsIs(t, "the most slots", p, 0, 8, 16)
	slotsIs(t, "the most slots", p, 0, 24, 16)
	heldLive(t, saidOf(t), "the most slots", p)
	for local := range int64(8) {
		lone := programOf(funcOf(t, 0, 8, fmt.Sprintf("load %d; store %d; jump 2", local, 7-local)))
		liveIs(t, "one of eight locals", lone, 0, nums(1<<local, 1<<8, 0))
		ranges := []impl.Range{{Slot: local}, {Slot: 7 - local, From: 2, To: 2}, {Slot: 8, From: 1, To: 1}}
		slices.SortFunc(ranges, func(a impl.Range, b impl.Range) int { return int(a.Slot - b.Slot) })
		rangesIs(t, "one of eight locals", lone, 0, ranges)
	}
}

// In MaxCode places what is asked for goes a long way, ahead and back.
func TestLiveOfLongCode(t *testing.T) {
	p := programOf(funcOf(t, 1, 1, "push 0; "+times(57, "neg")+"load 0; ret"))
	live := slices.Repeat(nums(3), 60)
	live[0], live[58], live[59] = 1, 1, 4
	liveIs(t, "the longest code", p, 0, live)
	rangesIs(t, "the longest code", p, 0, rangesOf(t, "0:0-58 1:1-58 2:59-59"))
	far := programOf(funcOf(t, 1, 1, "jump 59; load 0; ret; "+times(56, "jump 1")+"jump 58"))
	live = make([]int64, 60)
	live[0], live[1], live[2], live[58], live[59] = 1, 1, 2, 1, 1
	liveIs(t, "ways from the last place", far, 0, live)
	rangesIs(t, "ways from the last place", far, 0, rangesOf(t, "0:0-59 1:2-3"))
	back := "jump 59; load 0; ret; jump 1; "
	for at := 4; at < 60; at++ {
		back += fmt.Sprintf("jump %d; ", at-1)
	}
	p = programOf(funcOf(t, 1, 1, strings.TrimSuffix(back, "; ")))
	live = slices.Repeat(nums(1), 60)
	live[2] = 2
	liveIs(t, "the longest way back", p, 0, live)
	rangesIs(t, "the longest way back", p, 0, rangesOf(t, "0:0-59 1:2-3"))
}

// opInPlace is a function of two locals, in which an op with two more on the stack than it takes comes at place at.
func opInPlace(t *testing.T, o opSaid, a int64, takes int64, rest string) (p impl.Program, at int64) {
	t.Helper()
	at = takes + 2
	f := funcOf(t, 0, 2, times(int(at), "push 1")+o.name+" 0; "+rest)
	f.Code[at].A = a
	if o.arg == "place" {
		f.Code[at].A = at + 1
	}
	return programOf(f, funcOf(t, 4, 4, "push 1; ret"), funcOf(t, 0, 0, "push 1; ret")), at
}

type opCase struct {
	o     opSaid
	a     int64
	takes int64
}

func opCases(t *testing.T) []opCase {
	t.Helper()
	var l []opCase
	for _, o := range opsSaid(t) {
		switch o.arg {
		case "local":
			l = append(l, opCase{o, 0, o.takes}, opCase{o, 1, o.takes})
		case "func":
			l = append(l, opCase{o, 0, 0}, opCase{o, 1, 4}, opCase{o, 2, 0})
		default:
			l = append(l, opCase{o, 0, o.takes})
		}
	}
	return l
}

// What is asked for at an op: with nothing asked for behind it what it reads; with all asked for behind it all but what it writes alone.
func TestLiveOfEachOp(t *testing.T) {
	said := saidOf(t)
	for _, c := range opCases(t) {
		what := fmt.Sprint(c.o.name, " ", c.a)
		spin := fmt.Sprintf("jump %d", c.takes+3)
		p, at := opInPlace(t, c.o, c.a, c.takes, spin)
		verifyIs(t, what, p, impl.VerifyOut{})
		reads := int64(1<<c.takes-1) << 4
		if c.o.name == "load" {
			reads = 1 << c.a
		}
		if got := impl.Live(p, 0); got[at] != reads || got[at+1] != 0 {
			t.Errorf("Live of %s behind which nothing is asked for: got %b, want %b at %d", what, got, reads, at)
		}
		heldLive(t, said, what, p)

		rest := times(int(2+c.o.puts), "out") + "load 0; out; load 1; ret"
		p, at = opInPlace(t, c.o, c.a, c.takes, rest)
		verifyIs(t, what, p, impl.VerifyOut{})
		behind := int64(1<<(4+c.o.puts) - 1)
		all := int64(1<<(4+c.takes) - 1)
		switch c.o.name {
		case "store":
			all &^= 1 << c.a
		case "jump":
			behind = all
		case "ret":
			behind, all = 0, 1<<4
		}
		if got := impl.Live(p, 0); got[at] != all || got[at+1] != behind {
			t.Errorf("Live of %s behind which all is asked for: got %b, want %b and %b at %d", what, got, all, behind, at)
		}
		heldLive(t, said, what, p)
	}
}

// The range of what an op writes goes to the place next to it, though nobody asks for it there; of a local the same.
func TestRangesOfEachOp(t *testing.T) {
	for _, c := range opCases(t) {
		what := fmt.Sprint(c.o.name, " ", c.a)
		p, at := opInPlace(t, c.o, c.a, c.takes, fmt.Sprintf("jump %d", c.takes+3))
		ends := map[int64]impl.Range{}
		for _, r := range impl.Ranges(p, 0) {
			ends[r.Slot] = r
		}
		// The two that lie below are put alone, and never asked for.
		want := map[int64]int64{2: 1, 3: 2}
		for slot := int64(4); slot < 4+max(c.takes, c.o.puts); slot++ {
			want[slot] = at + 1
		}
		switch c.o.name {
		case "load":
			want[c.a] = at
		case "store":
			want[c.a], want[4] = at+1, at
		}
		for slot := range int64(16) {
			to, has := want[slot]
			if got, there := ends[slot]; got.To != to || there != has {
				t.Errorf("Ranges of %s: of slot %d %+v, want one to %d: %v", what, slot, got, to, has)
			}
		}
	}
}

// A call takes as many as the function that is called has Args, and writes where the first of them stood.
func TestLiveOfCalls(t *testing.T) {
	callee := func(args int64) impl.Func { return funcOf(t, args, 4, "push 1; ret") }
	for args := range int64(5) {
		p := programOf(funcOf(t, 0, 0, times(5, "push 1")+"call 1; ret"), callee(args))
		live := make([]int64, 7)
		for at := range 6 {
			live[at] = (1<<at - 1) &^ (1<<(5-args) - 1)
		}
		live[6] = 1 << (5 - args)
		what := fmt.Sprint("a call of ", args, " Args")
		liveIs(t, what, p, 0, live)
		heldLive(t, saidOf(t), what, p)
	}
}

// ofWrongPrograms asks of each function, there or not, of programs that are not right.
func ofWrongPrograms(t *testing.T, ask func(t *testing.T, what string, p impl.Program, f int64)) {
	t.Helper()
	for _, c := range loneFaults(t) {
		for _, p := range []impl.Program{programOf(c.f), programOf(c.f, summing(t).Funcs[0]), programOf(summing(t).Funcs[0], c.f)} {
			for _, f := range append(farNumbers(), 0, 1, 2) {
				ask(t, "a program with "+c.what, p, f)
			}
		}
	}
	for _, p := range []impl.Program{{}, programOf([]impl.Func{}...), programOf(impl.Func{}), programOf(slices.Repeat(summing(t).Funcs, 7)...)} {
		for _, f := range append(farNumbers(), 0, 1, 6, 7) {
			ask(t, "a program of too few or too many", p, f)
		}
	}
}

// ofNoFunction asks of functions that are not there, of right programs.
func ofNoFunction(t *testing.T, ask func(t *testing.T, what string, p impl.Program, f int64)) {
	t.Helper()
	for n := range impl.MaxFuncs {
		p := programOf(slices.Repeat(summing(t).Funcs, n+1)...)
		for _, f := range append(farNumbers(), int64(n)+1, int64(n)+2, int64(n)+256, -int64(n)-1) {
			ask(t, fmt.Sprint("a program of ", n+1), p, f)
		}
	}
}

func TestNothingAskedOfWrongPrograms(t *testing.T) {
	ofWrongPrograms(t, noneAsked)
}

func TestNothingAskedOfNoFunction(t *testing.T) {
	ofNoFunction(t, noneAsked)
	p := programOf(slices.Repeat(summing(t).Funcs, impl.MaxFuncs)...)
	for f := range int64(impl.MaxFuncs) {
		liveIs(t, "a program of several", p, f, nums(3, 7, 3, 5, 13, 5, 3, 6, 14, 6, 3, 2, 4))
		for _, at := range append(farNumbers(), 13, 14) {
			slotsIs(t, "a program of several", p, f, at, 0)
		}
	}
}

// slotAt is where a slot of a frame stands.
func slotAt(f impl.Frame, slot int) *int64 {
	if slot < len(f.Locals) {
		return &f.Locals[slot]
	}
	return &f.Stack[slot-len(f.Locals)]
}

// toldAlone is what a State tells beside its frames, and where these stand.
func toldAlone(s impl.State) string {
	text := ""
	for _, f := range s.Frames {
		text += fmt.Sprint(f.Func, " ", f.Pc, "; ")
	}
	s.Frames = nil
	return text + told(s)
}

// liveNumbers are the numbers of all slots that are live in the last frame of a State.
func liveNumbers(p impl.Program, s impl.State) []int64 {
	if len(s.Frames) == 0 {
		return nil
	}
	f := s.Frames[len(s.Frames)-1]
	var l []int64
	for slot := range len(f.Locals) + len(f.Stack) {
		if impl.Live(p, f.Func)[f.Pc]>>slot&1 == 1 {
			l = append(l, *slotAt(f, slot))
		}
	}
	return l
}

// liveCounts counts the slots that were given another number, so that the promise is not held by nothing.
type liveCounts struct {
	dead, deadLocals, below, live, told, dry, values, traps int
}

// anotherNumber gives a slot of a frame of a State another number, and runs both to the end.
func anotherNumber(p impl.Program, s impl.State, frame int, slot int, by int64) (changed impl.State, end impl.State) {
	changed = copied(s)
	*slotAt(changed.Frames[frame], slot) += by
	return changed, impl.Run(p, changed)
}

// Promise 10, of one State: a slot that is not live may have any number, and the same is told.
func promiseTen(t *testing.T, d *dice, p impl.Program, s impl.State, n *liveCounts) {
	t.Helper()
	end := impl.Run(p, s)
	want, numbers := toldAlone(end), fmt.Sprint(liveNumbers(p, end))
	for k, frame := range s.Frames {
		live := impl.Live(p, frame.Func)[frame.Pc]
		for slot := range len(frame.Locals) + len(frame.Stack) {
			by := []int64{1, -1, 1 << 32, math.MinInt64, 1 - 2*int64(d.below(50))}[d.below(5)]
			changed, got := anotherNumber(p, s, k, slot, by)
			same := toldAlone(got) == want && fmt.Sprint(liveNumbers(p, got)) == numbers
			if live>>slot&1 == 1 {
				n.live++
				n.told += int(yes(!same))
				continue
			}
			n.dead++
			n.deadLocals += int(yes(slot < len(frame.Locals)))
			n.below += int(yes(k < len(s.Frames)-1))
			if !same {
				t.Fatalf("slot %d of frame %d is not live in %+v, but\n%s\ntells %s\n%s\ntells %s", slot, k, p, told(s), told(end), told(changed), told(got))
			}
			if !impl.StateRight(p, changed) {
				t.Fatalf("%s is not right", told(changed))
			}
		}
	}
	switch {
	case !end.Done:
		n.dry++
	case end.Trap != 0:
		n.traps++
	default:
		n.values++
	}
}

func (n liveCounts) enough(t *testing.T, least int) {
	t.Helper()
	for what, k := range map[string]int{
		"slots that are not live": n.dead, "locals that are not live": n.deadLocals, "such slots of frames that wait": n.below, "slots that are live": n.live,
		"live slots that make another thing told": n.told, "runs out of fuel": n.dry, "values": n.values, "traps": n.traps,
	} {
		if k < least {
			t.Errorf("%s: only %d", what, k)
		}
	}
}

// Promises 10 and 11.
func TestThrownLive(t *testing.T) {
	said := saidOf(t)
	d := &dice{u: 11}
	n := &liveCounts{}
	for k := range 500 {
		ops := opsSaid(t)
		if k%2 == 0 {
			ops = jumpyOps(t)
		}
		p, s := thrownState(t, d, ops)
		heldLive(t, said, "a thrown program", p)
		for !s.Done && s.Fuel > 0 {
			promiseTen(t, d, p, s, n)
			for range 1 + d.below(20) {
				s = impl.Step(p, s)
			}
		}
	}
	n.enough(t, 200)
}

// Promise 10, of each State that comes about in runs that go on long.
func TestLiveOfRuns(t *testing.T) {
	d := &dice{u: 12}
	n := &liveCounts{}
	for _, p := range []impl.Program{summing(t), nested(t), thrownLoop(t, d), thrownLoop(t, d),
		programOf(funcOf(t, 1, 4, "load 0; store 2; load 0; jz 12; load 0; push 1; sub; store 0; load 2; load 1; add; jump 14; push 8; ret; store 1; jump 0"))} {
		for _, fuel := range nums(30, 77, 150) {
			for s := impl.Begin(p, 0, nums(5), fuel); !s.Done && s.Fuel > 0; s = impl.Step(p, s) {
				promiseTen(t, d, p, s, n)
			}
		}
	}
	if n.dead < 200 || n.deadLocals < 100 || n.told < 200 || n.dry < 50 || n.values < 50 {
		t.Errorf("too little was looked at: %+v", *n)
	}
}

// Each function of two or three instructions of a few kinds.
func TestLiveOfShortFunctions(t *testing.T) {
	said := saidOf(t)
	kinds := codeOf(t, "push 4; load 0; load 1; store 0; store 1; dup; pop; add; neg; jump 0; jump 1; jump 2; jz 0; jz 2; call 0; out; ret")
	looked := 0
	look := func(code ...impl.Ins) {
		p := programOf(impl.Func{Args: 0, Locals: 2, Code: append(slices.Clone(code), ins(impl.OpPush, 1), ins(impl.OpRet, 0))})
		if impl.Verify(p).Code == impl.OK {
			looked++
			heldLive(t, said, fmt.Sprint(code), p)
		}
	}
	for _, a := range kinds {
		for _, b := range kinds {
			look(a, b)
			for _, c := range kinds {
				look(a, b, c)
			}
		}
	}
	if looked < 500 {
		t.Errorf("only %d short functions were looked at", looked)
	}
}

// The same is answered again, whatever was asked in between.
func TestLiveKeepsNothing(t *testing.T) {
	p := summing(t)
	live, ranges := impl.Live(p, 0), impl.Ranges(p, 0)
	for range 3 {
		other := nested(t)
		impl.Live(other, 1)
		impl.Ranges(other, 2)
		impl.Slots(other, 0, 1)
		impl.Ranges(impl.Program{}, 0)
		liveIs(t, "a program that was asked for ahead", p, 0, live)
		rangesIs(t, "a program that was asked for ahead", p, 0, ranges)
	}
}

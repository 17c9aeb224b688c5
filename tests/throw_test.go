package tests

import (
	"testing"

	"loop.example/g00219/impl"
)

// openJump is a jump that goes on to a place that is not there yet, of that height.
type openJump struct {
	at, height int64
}

// rightThrow throws code that is right, as it knows the height of each place; -1 where it is not reached.
type rightThrow struct {
	d       *dice
	said    []opSaid
	args    []int64
	f       impl.Func
	heights []int64
	height  int64
	open    []openJump
}

func (r *rightThrow) put(i impl.Ins, behind int64) {
	r.f.Code = append(r.f.Code, i)
	r.heights = append(r.heights, r.height)
	r.height = behind
}

// few are mostly numbers that may be those of arrays and of places in them.
func few(d *dice) int64 {
	if d.below(10) == 0 {
		numbers := sampleNumbers()
		return numbers[d.below(len(numbers))]
	}
	return int64(d.below(6)) - 1
}

// joined lets jumps that are open go to the place at hand; one at least, if it is not reached otherwise.
func (r *rightThrow) joined() {
	if r.height == -1 && len(r.open) > 0 && r.d.below(4) > 0 {
		r.height = r.open[r.d.below(len(r.open))].height
	} else if r.d.below(3) > 0 {
		return
	}
	r.close()
}

// close lets all jumps that are open go to the place at hand, if they are of its height.
func (r *rightThrow) close() {
	var rest []openJump
	for _, o := range r.open {
		if o.height != r.height {
			rest = append(rest, o)
			continue
		}
		r.f.Code[o.at].A = int64(len(r.f.Code))
	}
	r.open = rest
}

// target is a place ahead that has that height, or this one, to be made another one later.
func (r *rightThrow) target(height int64) int64 {
	here := int64(len(r.f.Code))
	at := int64(r.d.below(len(r.f.Code) + 1))
	if r.d.below(2) == 0 && at < here && r.heights[at] == height {
		return at
	}
	r.open = append(r.open, openJump{here, height})
	return here
}

// one puts one instruction that is right where it stands, whether it is reached or not.
func (r *rightThrow) one() {
	o := r.said[r.d.below(len(r.said))]
	if r.d.below(3) == 0 {
		// So often a push or a load, that there is enough to take.
		o = r.said[r.d.below(2)]
	}
	i, takes, puts := ins(o.op, 0), o.takes, o.puts
	switch o.arg {
	case "number":
		i.A = few(r.d)
	case "local":
		i.A = int64(r.d.below(int(r.f.Locals)))
	case "func":
		i.A = int64(r.d.below(len(r.args)))
		takes = r.args[i.A]
	}
	behind := r.height - takes + puts
	switch {
	case r.height == -1:
		behind = -1
	case takes > r.height:
		r.put(ins(impl.OpPush, few(r.d)), r.height+1)
		return
	case behind > impl.MaxStack || i.Op == impl.OpRet && r.d.below(3) > 0:
		r.put(ins(impl.OpOut, 0), r.height-1)
		return
	case o.arg == "place":
		i.A = r.target(behind)
	}
	if i.Op == impl.OpJump || i.Op == impl.OpRet {
		behind = -1
	}
	r.put(i, behind)
}

// ended lets no way go on to the place behind the last one.
func (r *rightThrow) ended() impl.Func {
	for r.height != -1 || len(r.open) > 0 {
		if r.height == -1 {
			r.height = r.open[0].height
		}
		r.close()
		if r.height == 0 {
			r.put(ins(impl.OpPush, few(r.d)), 1)
		}
		r.put(ins(impl.OpRet, 0), -1)
	}
	return r.f
}

// thrownRight is a thrown program that is right.
func thrownRight(t *testing.T, d *dice, said []opSaid) impl.Program {
	t.Helper()
	args := make([]int64, 1+d.below(4))
	for f := range args {
		args[f] = int64(d.below(5))
	}
	var p impl.Program
	for _, n := range args {
		r := rightThrow{d: d, said: said, args: args}
		r.f = impl.Func{Args: n, Locals: max(n, int64(1+d.below(8)))}
		for range 1 + d.below(40) {
			r.joined()
			r.one()
		}
		p.Funcs = append(p.Funcs, r.ended())
	}
	if got := impl.Verify(p); got.Code != impl.OK {
		t.Fatalf("a program that was thrown right is not: %+v of %+v", got, p)
	}
	return p
}

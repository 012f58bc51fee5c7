package vm

import (
	"math"
	"math/big"
	"math/rand"
	"slices"
	"strings"
	"testing"
	"unsafe"

	"thresher/api"
	"thresher/branch"
	"thresher/check"
	"thresher/code"
	"thresher/eval"
)

// plainMake is what an op makes of two numbers, by numbers of any size that go round to 64 bits.
func plainMake(do uint8, a, b int64) (int64, api.Errno) {
	x, y, z := big.NewInt(a), big.NewInt(b), new(big.Int)
	if (do == 6 || do == 7) && b == 0 {
		return 0, 131
	}
	switch do {
	case 3:
		z.Add(x, y)
	case 4:
		z.Sub(x, y)
	case 5:
		z.Mul(x, y)
	case 6:
		z.Quo(x, y)
	case 7:
		z.Rem(x, y)
	case 8:
		if x.Cmp(y) < 0 {
			z.SetInt64(1)
		}
	case 9:
		if x.Cmp(y) == 0 {
			z.SetInt64(1)
		}
	}
	return int64(new(big.Int).And(z, new(big.Int).SetUint64(math.MaxUint64)).Uint64()), 0
}

// plainFrame is a frame by the chapters' words: what was given stands in a map, and whether the frame waits is asked of it each time.
type plainFrame struct {
	p        api.Program
	begun    api.Task
	regs     [16]int64
	at, left int
	into     []int // the registers of all forks, by their numbers
	given    map[int]api.Result
	joined   int
	paid     bool // the op at at is a join that is paid for, and not done
	over     bool
	came     api.Result
}

func plainNew(p api.Program, t api.Task) *plainFrame {
	f := &plainFrame{p: code.Copy(p), begun: t, left: t.Fuel, given: map[int]api.Result{}}
	f.begun.Args = slices.Clone(t.Args)
	copy(f.regs[:], t.Args)
	return f
}

func (f *plainFrame) end(v int64, e api.Errno) api.Stop {
	f.over, f.came = true, api.Result{Value: v, Err: e}
	return api.Stop{Kind: 4, Result: f.came}
}

func (f *plainFrame) op() api.Op { return f.p.Funcs[f.begun.Func].Ops[f.at] }

// waiting is the children that are not given.
func (f *plainFrame) waiting() (l []int) {
	for n := 1; n <= len(f.into); n++ {
		if _, is := f.given[n]; !is {
			l = append(l, n)
		}
	}
	return l
}

// join is a join that is paid for.
func (f *plainFrame) join() api.Stop {
	f.paid = true
	if len(f.waiting()) > 0 { // those that were joined were given
		return api.Stop{Kind: 3}
	}
	f.paid = false
	for n := f.joined + 1; n <= len(f.into); n++ {
		if e := f.given[n].Err; e != 0 {
			return f.end(0, e)
		}
	}
	for ; f.joined < len(f.into); f.joined++ {
		f.regs[f.into[f.joined]] = f.given[f.joined+1].Value
	}
	if o := f.op(); o.Do == 14 {
		return f.end(f.regs[o.A], 0)
	}
	f.at++
	return api.Stop{Kind: 1}
}

// fork is an OpFork, that is paid for.
func (f *plainFrame) fork(o api.Op) api.Stop {
	n := len(f.into) + 1
	if n > 16 {
		return f.end(0, 132)
	}
	if len(f.begun.Path) >= 12 {
		return f.end(0, 133)
	}
	half := f.left / 2
	f.left = f.left - half
	args := make([]int64, f.p.Funcs[o.N].Args)
	for i := range args {
		args[i] = f.regs[o.A+i]
	}
	f.into = append(f.into, o.D)
	f.at++
	return api.Stop{Kind: 2, Kid: api.Task{Path: f.begun.Path + string([]byte{byte(n)}), Func: int(o.N), Args: args, Fuel: half}}
}

// step is one op.
func (f *plainFrame) step() api.Stop {
	o := f.op()
	if f.left == 0 {
		return f.end(0, 130)
	}
	f.left--
	goes := f.at + 1
	switch {
	case o.Do == 1:
		f.regs[o.D] = o.N
	case o.Do == 2:
		f.regs[o.D] = f.regs[o.A]
	case o.Do <= 9:
		v, e := plainMake(o.Do, f.regs[o.A], f.regs[o.B])
		if e != 0 {
			return f.end(0, e)
		}
		f.regs[o.D] = v
	case o.Do == 10, o.Do == 11 && f.regs[o.A] != 0:
		goes = int(o.N)
	case o.Do == 12:
		return f.fork(o)
	case o.Do >= 13:
		return f.join()
	}
	f.at = goes
	return api.Stop{Kind: 1}
}

func (f *plainFrame) run(n int) (api.Stop, api.Errno) {
	if n < 1 {
		return api.Stop{}, 2
	}
	if f.over {
		return api.Stop{Kind: 4, Result: f.came}, 0
	}
	if f.paid {
		if s := f.join(); s.Kind != 1 {
			return s, 0
		}
	}
	for ; n > 0; n-- {
		if s := f.step(); s.Kind != 1 {
			return s, 0
		}
	}
	return api.Stop{Kind: 1}, 0
}

func (f *plainFrame) give(n int, r api.Result) api.Errno {
	_, is := f.given[n]
	switch {
	case n <= 0 || n > len(f.into):
		return 5
	case is:
		return 7
	case f.over:
		return 3
	}
	f.given[n] = r
	return 0
}

func sameTask(a, b api.Task) bool {
	return a.Path == b.Path && a.Func == b.Func && a.Fuel == b.Fuel && slices.Equal(a.Args, b.Args)
}

func sameStop(a, b api.Stop) bool {
	return a.Kind == b.Kind && sameTask(a.Kid, b.Kid) && a.Result == b.Result
}

// pair is a frame, and what it ought to be.
type pair struct {
	f *Frame
	w *plainFrame
}

// both is a task that can be begun.
func both(t *testing.T, p api.Program, x api.Task) pair {
	t.Helper()
	w := plainNew(p, x)
	f, e := New(p, x)
	if f == nil || e != api.OK {
		t.Fatalf("New(%v, %v): %v, %v", p, x, f, e)
	}
	c := pair{f, w}
	c.hold(t)
	return c
}

// hold holds all that is told of a frame against what it ought to be.
func (c pair) hold(t *testing.T) {
	t.Helper()
	if x := c.f.Task(); !sameTask(x, c.w.begun) {
		t.Fatalf("Task: %v, want %v", x, c.w.begun)
	}
	if n := c.f.Kids(); n != len(c.w.into) {
		t.Fatalf("%v: Kids: %d, want %d", c.w.begun, n, len(c.w.into))
	}
	if l := c.f.Waits(); !slices.Equal(l, c.w.waiting()) {
		t.Fatalf("%v: Waits: %v, want %v", c.w.begun, l, c.w.waiting())
	}
	if n := c.f.Left(); n != c.w.left {
		t.Fatalf("%v: Left: %d, want %d", c.w.begun, n, c.w.left)
	}
}

func (c pair) run(t *testing.T, n int) api.Stop {
	t.Helper()
	s, e := c.f.Run(n)
	w, we := c.w.run(n)
	if !sameStop(s, w) || e != we {
		t.Fatalf("%v of %v: Run(%d): %v, %v, want %v, %v", c.w.begun, c.w.p, n, s, e, w, we)
	}
	c.hold(t)
	return s
}

func (c pair) give(t *testing.T, n int, r api.Result) api.Errno {
	t.Helper()
	e, w := c.f.Give(n, r), c.w.give(n, r)
	if e != w {
		t.Fatalf("%v of %v: Give(%d, %v): %v, want %v", c.w.begun, c.w.p, n, r, e, w)
	}
	c.hold(t)
	return e
}

// want fails unless a run stops as is wanted by hand.
func (c pair) want(t *testing.T, n int, kind uint8, left int) api.Stop {
	t.Helper()
	s := c.run(t, n)
	if s.Kind != kind || c.f.Left() != left {
		t.Fatalf("Run(%d): %v, %d left, want kind %d, %d left", n, s, c.f.Left(), kind, left)
	}
	return s
}

// ends fails unless a run ends the task as is wanted by hand, and all later ones tell the same.
func (c pair) ends(t *testing.T, n int, value int64, err api.Errno) {
	t.Helper()
	left := c.f.Left()
	for _, n := range []int{n, 1, math.MaxInt} {
		s := c.run(t, n)
		if s.Kind != api.StopDone || s.Result.Value != value || s.Result.Err != err || c.f.Left() > left {
			t.Fatalf("Run(%d): %v, want %d, %v", n, s, value, err)
		}
		left = c.f.Left()
	}
}

func value(v int64) api.Result   { return api.Result{Value: v} }
func err(e api.Errno) api.Result { return api.Result{Err: e} }

func set(d int, n int64) api.Op       { return api.Op{Do: api.OpSet, D: d, N: n} }
func op(do uint8, d, a, b int) api.Op { return api.Op{Do: do, D: d, A: a, B: b} }
func on(n int64) api.Op               { return api.Op{Do: api.OpGo, N: n} }
func when(a int, n int64) api.Op      { return api.Op{Do: api.OpIf, A: a, N: n} }
func fork(d, a int, fn int64) api.Op  { return api.Op{Do: api.OpFork, D: d, A: a, N: fn} }
func ret(a int) api.Op                { return api.Op{Do: api.OpReturn, A: a} }

var joined = api.Op{Do: api.OpJoin}

// fun is a function of so many arguments and registers.
func fun(args, regs int, l ...api.Op) api.Func { return api.Func{Args: args, Regs: regs, Ops: l} }

func prog(l ...api.Func) api.Program { return api.Program{Funcs: l} }

// fib is a program that forks for the two numbers ahead.
func fib() api.Program {
	return prog(fun(1, 4, set(1, 2), op(api.OpLess, 2, 0, 1), when(2, 10), set(1, 1), op(api.OpSub, 2, 0, 1), fork(2, 2, 0), op(api.OpSub, 3, 2, 1), fork(3, 3, 0), joined, op(api.OpAdd, 0, 2, 3), ret(0)))
}

// TestNumbers: the errors, kinds and limits that the chapter names are what this package's tests go by.
func TestNumbers(t *testing.T) {
	if api.ErrNil != 1 || api.ErrArg != 2 || api.ErrState != 3 || api.ErrNone != 5 || api.ErrThere != 7 || api.ErrFuel != 130 || api.ErrZero != 131 || api.ErrKids != 132 || api.ErrDeep != 133 {
		t.Error("errors")
	}
	if api.StopMore != 1 || api.StopFork != 2 || api.StopJoin != 3 || api.StopDone != 4 || api.MaxFuel != 65536 || api.MaxKids != 16 || api.MaxDeep != 12 {
		t.Error("kinds, limits")
	}
}

// TestExamples: the chapter's examples.
func TestExamples(t *testing.T) {
	c := both(t, prog(fun(0, 1, fork(0, 0, 1), ret(0)), fun(0, 1, ret(0))), api.Task{Fuel: 20})
	s := c.want(t, 9, api.StopFork, 10)
	if !sameTask(s.Kid, api.Task{Path: "\x01", Func: 1, Fuel: 9}) {
		t.Error(s)
	}
	c.want(t, 9, api.StopJoin, 9)
	if c.give(t, 1, value(5)) != api.OK {
		t.Error("Give 1")
	}
	c.ends(t, 9, 5, api.OK)
	if c.give(t, 1, value(5)) != api.ErrThere || c.give(t, 2, value(5)) != api.ErrNone {
		t.Error("Give again")
	}
}

// refused fails unless no frame is made.
func refused(t *testing.T, p api.Program, x api.Task, e api.Errno) {
	t.Helper()
	if f, w := New(p, x); f != nil || w != e {
		t.Errorf("New(%v, %v): %v, %v, want %v", p, x, f, w, e)
	}
}

// TestNew (P14.1): which tasks can be begun; what is wrong with the program is told first.
func TestNew(t *testing.T) {
	good := prog(fun(1, 1, ret(0)), fun(2, 2, ret(0)), fun(0, 1, ret(0)))
	deep := strings.Repeat("\x10", 12)
	for _, x := range []api.Task{
		{Args: []int64{1}}, {Func: 1, Args: []int64{1, 2}}, {Func: 2}, {Func: 2, Args: []int64{}},
		{Func: 2, Fuel: 1}, {Func: 2, Fuel: 65536}, {Func: 2, Path: "\x01"}, {Func: 2, Path: "\x10\x01"}, {Func: 2, Path: deep, Fuel: 65535},
	} {
		both(t, good, x)
	}
	bad := []api.Task{
		{Func: 2, Path: "\x00"}, {Func: 2, Path: "\x11"}, {Func: 2, Path: "\x01\xff"}, {Func: 2, Path: "a"}, {Func: 2, Path: deep + "\x01"},
		{Func: -1}, {Func: 3}, {Func: math.MinInt}, {Func: math.MaxInt}, {Func: 3, Args: []int64{1}}, {Func: 1 << 32, Args: []int64{1}},
		{}, {Args: []int64{1, 2}}, {Func: 1, Args: []int64{1}}, {Func: 1, Args: []int64{1, 2, 3}}, {Func: 2, Args: []int64{1}},
		{Func: 2, Fuel: -1}, {Func: 2, Fuel: 65537}, {Func: 2, Fuel: math.MinInt}, {Func: 2, Fuel: math.MaxInt}, {Func: 2, Fuel: 1<<32 + 1},
	}
	for _, x := range bad {
		refused(t, good, x, api.ErrArg)
	}
	for _, x := range append(bad, api.Task{Func: 2}, api.Task{Args: []int64{1}}) {
		refused(t, prog(), x, api.ErrFuncs)
		refused(t, prog(fun(0, 17, ret(0))), x, api.ErrForm)
		refused(t, prog(slices.Repeat([]api.Func{fun(0, 1, ret(0))}, 17)...), x, api.ErrForm)
		refused(t, prog(fun(2, 1, ret(0))), x, api.ErrFuncs)
		refused(t, prog(fun(0, 1, ret(1))), x, api.ErrReg)
		refused(t, prog(fun(0, 1, ret(0)), fun(0, 1, on(1))), x, api.ErrTarget)
		refused(t, prog(fun(0, 1, fork(0, 0, 1), ret(0))), x, api.ErrTarget)
		refused(t, prog(fun(0, 1, set(0, 1))), x, api.ErrEnds)
		refused(t, prog(fun(0, 1, ret(0)), fun(0, 1)), x, api.ErrEnds)
	}
}

// TestNil (R3): no frame, or one that New did not make.
func TestNil(t *testing.T) {
	for _, f := range []*Frame{nil, {}, new(Frame)} {
		for range 2 {
			for _, n := range []int{math.MinInt, -1, 0, 1, math.MaxInt} {
				if s, e := f.Run(n); !sameStop(s, api.Stop{}) || e != api.ErrNil {
					t.Errorf("Run(%d): %v, %v", n, s, e)
				}
				if e := f.Give(n, value(1)); e != api.ErrNil {
					t.Errorf("Give(%d): %v", n, e)
				}
			}
			if !sameTask(f.Task(), api.Task{}) || f.Kids() != 0 || len(f.Waits()) != 0 || f.Left() != 0 {
				t.Error(f.Task(), f.Kids(), f.Waits(), f.Left())
			}
		}
	}
}

// TestBegun (P14.1): ahead of the first op, and what stays as it was behind all of them.
func TestBegun(t *testing.T) {
	x := api.Task{Path: "\x03\x02", Func: 1, Args: []int64{7, -8}, Fuel: 30}
	c := both(t, prog(fun(0, 0, on(0)), fun(2, 3, set(0, 1), fork(1, 0, 1), joined, ret(2))), x)
	for range 2 {
		if !sameTask(c.f.Task(), x) || c.f.Kids() != 0 || len(c.f.Waits()) != 0 || c.f.Left() != 30 {
			t.Fatal(c.f.Task(), c.f.Kids(), c.f.Waits(), c.f.Left())
		}
	}
	s := c.want(t, 9, api.StopFork, 14)
	if !sameTask(s.Kid, api.Task{Path: "\x03\x02\x01", Func: 1, Args: []int64{1, -8}, Fuel: 14}) {
		t.Error(s)
	}
	c.give(t, 1, value(99))
	c.ends(t, 9, 0, api.OK)
	if !sameTask(c.f.Task(), x) || c.f.Kids() != 1 || c.f.Left() != 12 {
		t.Error(c.f.Task(), c.f.Kids(), c.f.Left())
	}
}

// TestRunArg (P14.2): at least one op; an error changes nothing, also of a frame that waits, or is done.
func TestRunArg(t *testing.T) {
	c := both(t, prog(fun(0, 1, set(0, 3), fork(0, 0, 1), ret(0)), fun(0, 1, ret(0))), api.Task{Fuel: 20})
	wrong := func() {
		t.Helper()
		for _, n := range []int{0, -1, -65536, math.MinInt} {
			if s, e := c.f.Run(n); !sameStop(s, api.Stop{}) || e != api.ErrArg {
				t.Errorf("Run(%d): %v, %v", n, s, e)
			}
			c.hold(t)
		}
	}
	wrong()
	c.want(t, 1, api.StopMore, 19)
	wrong()
	c.want(t, 1, api.StopFork, 9)
	wrong()
	c.want(t, 1, api.StopJoin, 8)
	wrong()
	c.give(t, 1, value(4))
	wrong()
	c.ends(t, 1, 4, api.OK)
	wrong()
}

// TestSteps (P14.2): behind n ops it would go on; each op costs one, and counts for one.
func TestSteps(t *testing.T) {
	p := prog(fun(0, 2, set(0, 6), op(api.OpCopy, 1, 0, 0), joined, on(4), when(1, 5), op(api.OpMul, 0, 0, 1), ret(0)))
	for n := 1; n <= 8; n++ {
		c := both(t, p, api.Task{Fuel: 50})
		left := 50
		for left-n > 43 {
			left -= n
			c.want(t, n, api.StopMore, left)
		}
		c.ends(t, n, 36, api.OK)
		if c.f.Left() != 43 {
			t.Errorf("by %d: %d left", n, c.f.Left())
		}
	}
	endless := both(t, prog(fun(0, 0, on(0))), api.Task{Fuel: 65536})
	endless.want(t, 65535, api.StopMore, 1)
	endless.want(t, 1, api.StopMore, 0)
	endless.ends(t, 1, 0, api.ErrFuel)
	endless = both(t, prog(fun(0, 0, joined, on(0))), api.Task{Fuel: 65536})
	endless.ends(t, math.MaxInt, 0, api.ErrFuel)
}

// TestFuel (P14.2): an op that can't be paid for is not done; it is told by the run that comes to it.
func TestFuel(t *testing.T) {
	two := prog(fun(0, 1, set(0, 7), ret(0)))
	both(t, two, api.Task{}).ends(t, 1, 0, api.ErrFuel)
	both(t, two, api.Task{Fuel: 1}).ends(t, 2, 0, api.ErrFuel)
	both(t, two, api.Task{Fuel: 2}).ends(t, 2, 7, api.OK)
	c := both(t, two, api.Task{Fuel: 1})
	c.want(t, 1, api.StopMore, 0)
	c.ends(t, 1, 0, api.ErrFuel)
	zero := prog(fun(0, 1, op(api.OpDiv, 0, 0, 0), ret(0)))
	both(t, zero, api.Task{}).ends(t, 9, 0, api.ErrFuel)
	both(t, zero, api.Task{Fuel: 1}).ends(t, 9, 0, api.ErrZero)
	forks := prog(fun(0, 1, fork(0, 0, 1), ret(0)), fun(0, 1, ret(0)))
	none := both(t, forks, api.Task{})
	none.ends(t, 9, 0, api.ErrFuel)
	if none.f.Kids() != 0 {
		t.Error("a fork that can't be paid for")
	}
	one := both(t, forks, api.Task{Fuel: 1})
	if s := one.want(t, 9, api.StopFork, 0); s.Kid.Fuel != 0 {
		t.Error(s)
	}
	one.ends(t, 9, 0, api.ErrFuel) // the join can't be paid for: nothing is waited for
	if !slices.Equal(one.f.Waits(), []int{1}) {
		t.Error(one.f.Waits())
	}
	paid := both(t, forks, api.Task{Fuel: 3})
	paid.want(t, 9, api.StopFork, 1)
	paid.want(t, 9, api.StopJoin, 0)
	paid.want(t, 9, api.StopJoin, 0)
	paid.give(t, 1, value(6))
	paid.ends(t, 9, 6, api.OK) // what is paid for is done without fuel
}

// TestHalves (P14.2): a child has half of what is left behind its fork's own cost, rounded down.
func TestHalves(t *testing.T) {
	p := prog(fun(0, 1, fork(0, 0, 1), fork(0, 0, 1), fork(0, 0, 1), on(3)), fun(0, 1, on(0)))
	for fuel := 0; fuel <= 65536; fuel += 1 + fuel/50 {
		c := both(t, p, api.Task{Fuel: fuel})
		left := fuel
		for n := 1; n <= 3 && left > 0; n++ {
			left--
			s := c.want(t, 2, api.StopFork, left-left/2)
			if s.Kid.Fuel != left/2 || s.Kid.Path != string([]byte{byte(n)}) {
				t.Fatalf("fuel %d: %v", fuel, s)
			}
			left -= left / 2
		}
	}
}

// TestFork (P14.2): a child does the function that is named, with the registers from A on, by the next number; the task goes on behind it.
func TestFork(t *testing.T) {
	p := prog(
		fun(1, 5, set(1, 7), set(2, 2), fork(3, 0, 2), set(1, 100), fork(4, 1, 1), fork(0, 16, 3), joined, op(api.OpSub, 0, 3, 4), ret(0)),
		fun(2, 2, ret(0)), fun(3, 3, ret(0)), fun(0, 1, ret(0)),
	)
	c := both(t, p, api.Task{Path: "\x05", Args: []int64{1}, Fuel: 100})
	kids := []api.Task{{Path: "\x05\x01", Func: 2, Args: []int64{1, 7, 2}, Fuel: 48}, {Path: "\x05\x02", Func: 1, Args: []int64{100, 2}, Fuel: 23}, {Path: "\x05\x03", Func: 3, Fuel: 11}}
	for i, left := range []int{49, 24, 12} {
		if s := c.want(t, 9, api.StopFork, left); !sameTask(s.Kid, kids[i]) || c.f.Kids() != i+1 {
			t.Errorf("%v, want %v", s, kids[i])
		}
	}
	for n, v := range []int64{50, 8, 3} {
		c.give(t, n+1, value(v))
	}
	c.ends(t, 9, 42, api.OK)
}

// TestFirst (P14.2): whether it forks, waits or ends at the last op of a run, that is told, and not StopMore.
func TestFirst(t *testing.T) {
	p := prog(fun(0, 1, fork(0, 0, 0), set(0, 1), joined, ret(0)))
	c := both(t, p, api.Task{Fuel: 99})
	c.want(t, 1, api.StopFork, 49)
	c.want(t, 2, api.StopJoin, 47)
	c.give(t, 1, value(8))
	c.ends(t, 1, 8, api.OK)
	early := both(t, p, api.Task{Fuel: 99})
	early.want(t, 3, api.StopFork, 49)
	early.give(t, 1, value(8))
	early.want(t, 2, api.StopMore, 47) // the join does not wait: it counts as other ops do
	early.ends(t, 1, 8, api.OK)
	late := both(t, prog(fun(0, 2, fork(0, 0, 0), joined, set(1, 4), set(1, 5), ret(1))), api.Task{Fuel: 99})
	late.want(t, 9, api.StopFork, 49)
	late.want(t, 9, api.StopJoin, 48)
	late.give(t, 1, value(8))
	late.want(t, 1, api.StopMore, 47) // the join was paid for by the run ahead: it counts for nothing
	late.want(t, 1, api.StopMore, 46)
	late.ends(t, 1, 5, api.OK)
}

// TestWaits (P14.1, P14.2): it waits as long as one is not given, in whatever order they are, whether one failed or not.
func TestWaits(t *testing.T) {
	p := prog(fun(0, 4, fork(0, 0, 1), fork(1, 0, 1), fork(2, 0, 1), joined, ret(1)), fun(0, 1, ret(0)))
	for _, order := range [][]int{{1, 2, 3}, {1, 3, 2}, {2, 1, 3}, {2, 3, 1}, {3, 1, 2}, {3, 2, 1}} {
		for bad := range 4 {
			c := both(t, p, api.Task{Fuel: 900})
			for range 3 {
				c.run(t, 1)
			}
			left := []int{1, 2, 3}
			for _, n := range order {
				c.want(t, 5, api.StopJoin, 111)
				if !slices.Equal(c.f.Waits(), left) {
					t.Fatal(c.f.Waits())
				}
				r := value(int64(10 * n))
				if n == bad {
					r = err(77)
				}
				c.give(t, n, r)
				left = slices.DeleteFunc(left, func(x int) bool { return x == n })
			}
			if len(c.f.Waits()) != 0 {
				t.Fatal(c.f.Waits())
			}
			if bad > 0 {
				c.ends(t, 1, 0, 77)
			} else {
				c.ends(t, 1, 20, api.OK)
			}
		}
	}
}

// TestFailed (P14.2): the first child by its number that failed, of those that were not joined yet, has the task fail.
func TestFailed(t *testing.T) {
	p := prog(fun(0, 2, fork(0, 0, 1), fork(0, 0, 1), fork(0, 0, 1), ret(0)), fun(0, 1, ret(0)))
	c := both(t, p, api.Task{Fuel: 900})
	for range 3 {
		c.run(t, 1)
	}
	c.give(t, 3, err(91))
	c.give(t, 2, api.Result{Value: 5, Err: 92})
	c.want(t, 1, api.StopJoin, 111)
	c.give(t, 1, value(1))
	c.ends(t, 1, 0, 92)
	ahead := both(t, p, api.Task{Fuel: 900})
	ahead.run(t, 1)
	ahead.give(t, 1, err(-3)) // given ahead of the join: it goes on till then
	ahead.want(t, 9, api.StopFork, 225)
	ahead.want(t, 9, api.StopFork, 112)
	ahead.give(t, 2, value(1))
	ahead.give(t, 3, value(1))
	ahead.ends(t, 1, 0, -3)
	if ahead.f.Left() != 111 {
		t.Error("the join is paid for", ahead.f.Left())
	}
}

// TestInto (P14.2): values come into their forks' registers one after the other, at the join and not ahead; those that were joined do not come again.
func TestInto(t *testing.T) {
	p := prog(fun(0, 3, set(0, 1), fork(0, 0, 1), fork(0, 0, 1), fork(1, 0, 1), op(api.OpCopy, 2, 0, 0), joined, op(api.OpAdd, 2, 2, 0), set(0, 3), joined, op(api.OpMul, 2, 2, 0), op(api.OpAdd, 0, 2, 1), ret(0)), fun(0, 1, ret(0)))
	c := both(t, p, api.Task{Fuel: 999})
	for n := 1; n <= 3; n++ {
		c.run(t, 9)
		c.give(t, n, value(int64(n*10)))
	}
	c.ends(t, 99, (1+20)*3+30, api.OK)
	returns := both(t, prog(fun(0, 1, set(0, 5), fork(0, 0, 0), ret(0))), api.Task{Fuel: 99})
	returns.run(t, 9)
	returns.run(t, 9)
	returns.give(t, 1, value(6))
	returns.ends(t, 9, 6, api.OK)
}

// TestGive (P14.3): no child, one that was given, a frame that is done, in this order; an error changes nothing.
func TestGive(t *testing.T) {
	p := prog(fun(0, 2, fork(0, 0, 1), fork(1, 0, 1), op(api.OpMod, 0, 1, 1), ret(0)), fun(0, 1, ret(0)))
	c := both(t, p, api.Task{Fuel: 99})
	none := func(l ...int) {
		t.Helper()
		for _, n := range append(l, math.MinInt, -1, 0, 3, 16, 17, 1<<32+1, math.MaxInt) {
			if c.give(t, n, value(9)) != api.ErrNone {
				t.Error("Give", n)
			}
		}
	}
	none(1, 2)
	c.run(t, 1)
	none(2)
	c.run(t, 1)
	none()
	if c.give(t, 2, value(4)) != api.OK || c.give(t, 2, value(5)) != api.ErrThere || c.give(t, 2, err(6)) != api.ErrThere {
		t.Error("Give 2")
	}
	c.ends(t, 9, 0, api.ErrZero) // the register holds 0 till the join
	none()
	if c.give(t, 1, value(9)) != api.ErrState || c.give(t, 2, value(9)) != api.ErrThere || c.give(t, 1, err(9)) != api.ErrState {
		t.Error("done")
	}
	c.ends(t, 9, 0, api.ErrZero)
	if !slices.Equal(c.f.Waits(), []int{1}) {
		t.Error(c.f.Waits())
	}
}

// TestKept (P14.3): what was given first stays.
func TestKept(t *testing.T) {
	c := both(t, prog(fun(0, 1, fork(0, 0, 0), ret(0))), api.Task{Fuel: 99})
	c.run(t, 1)
	c.run(t, 1)
	c.give(t, 1, value(4))
	c.give(t, 1, value(5))
	c.give(t, 1, err(5))
	c.ends(t, 1, 4, api.OK)
}

// TestKids (P14.2): at most MaxKids children, joined or not; one fork more fails, once it is paid for; of a path that is too deep, too, that comes first.
func TestKids(t *testing.T) {
	for _, join := range []bool{false, true} {
		ops := []api.Op{fork(0, 0, 0)}
		if join {
			ops = append(ops, joined)
		}
		c := both(t, prog(fun(0, 1, append(ops, on(0))...)), api.Task{Path: strings.Repeat("\x01", 11), Fuel: 65536})
		kids := 0
		for s := c.run(t, 9); s.Kind == api.StopFork || s.Kind == api.StopJoin; s = c.run(t, 9) {
			if s.Kind == api.StopFork {
				kids++
				c.give(t, kids, value(1))
			}
		}
		if kids < 12 || kids > 16 {
			t.Errorf("%d children", kids)
		}
	}
	straight := prog(fun(0, 1, append(slices.Repeat([]api.Op{fork(0, 0, 1)}, 17), ret(0))...), fun(0, 1, ret(0)))
	c := both(t, straight, api.Task{Fuel: 65536})
	for n := 1; n <= 16; n++ {
		if s := c.run(t, 9); s.Kind != api.StopFork || s.Kid.Path != string([]byte{byte(n)}) {
			t.Fatal(s)
		}
	}
	c.ends(t, 9, 0, api.ErrKids)
	if c.f.Kids() != 16 || c.f.Left() != 0 || len(c.f.Waits()) != 16 {
		t.Error(c.f.Kids(), c.f.Left(), c.f.Waits())
	}
}

// TestDeep (P14.2): a child's path has at most MaxDeep bytes; a fork beyond it fails, once it is paid for.
func TestDeep(t *testing.T) {
	p := prog(fun(0, 1, fork(0, 0, 0), ret(0)))
	for n := range 12 {
		path := strings.Repeat("\x02", n)
		if s := both(t, p, api.Task{Path: path, Fuel: 9}).want(t, 9, api.StopFork, 4); s.Kid.Path != path+"\x01" {
			t.Error(s)
		}
	}
	c := both(t, p, api.Task{Path: strings.Repeat("\x02", 12), Fuel: 9})
	c.ends(t, 9, 0, api.ErrDeep)
	if c.f.Left() != 8 || c.f.Kids() != 0 {
		t.Error(c.f.Left(), c.f.Kids())
	}
	both(t, p, api.Task{Path: strings.Repeat("\x02", 12)}).ends(t, 9, 0, api.ErrFuel)
}

// edges are numbers at which something could go wrong.
var edges = []int64{math.MinInt64, math.MinInt64 + 1, -1 << 32, -8, -7, -3, -2, -1, 0, 1, 2, 3, 7, 8, 1 << 31, 1 << 32, 3037000500, math.MaxInt64 - 1, math.MaxInt64}

// TestTwo (P14.2): what ops make of two numbers, whichever registers they have.
func TestTwo(t *testing.T) {
	for do := api.OpAdd; do <= api.OpSame; do++ {
		for _, a := range edges {
			for _, b := range edges {
				w, e := plainMake(do, a, b)
				for d := range 3 {
					both(t, prog(fun(2, 3, op(do, d, 0, 1), ret(d))), api.Task{Args: []int64{a, b}, Fuel: 2}).ends(t, 9, w, e)
				}
			}
			w, e := plainMake(do, a, a)
			both(t, prog(fun(1, 1, op(do, 0, 0, 0), ret(0))), api.Task{Args: []int64{a}, Fuel: 2}).ends(t, 2, w, e)
		}
	}
}

// TestTwoByHand (P14.2): by hand.
func TestTwoByHand(t *testing.T) {
	const least, greatest = math.MinInt64, math.MaxInt64
	for _, x := range []struct {
		do      uint8
		a, b, w int64
		err     api.Errno
	}{
		{api.OpAdd, 2, 3, 5, 0}, {api.OpAdd, greatest, 1, least, 0}, {api.OpSub, 2, 3, -1, 0}, {api.OpSub, least, 1, greatest, 0}, {api.OpMul, -2, 3, -6, 0}, {api.OpMul, least, -1, least, 0},
		{api.OpDiv, -7, 2, -3, 0}, {api.OpDiv, 7, -2, -3, 0}, {api.OpDiv, least, -1, least, 0}, {api.OpDiv, 0, 0, 0, api.ErrZero}, {api.OpMod, -7, 2, -1, 0}, {api.OpMod, 7, -2, 1, 0}, {api.OpMod, least, -1, 0, 0}, {api.OpMod, 1, 0, 0, api.ErrZero},
		{api.OpLess, 1, 2, 1, 0}, {api.OpLess, 2, 2, 0, 0}, {api.OpLess, least, greatest, 1, 0}, {api.OpSame, 2, 2, 1, 0}, {api.OpSame, 2, 3, 0, 0},
	} {
		p := prog(fun(2, 3, set(2, 44), op(x.do, 2, 0, 1), ret(2)))
		both(t, p, api.Task{Args: []int64{x.a, x.b}, Fuel: 3}).ends(t, 3, x.w, x.err)
	}
}

// TestOne (P14.2): ops that no two numbers are reckoned by, and registers: the arguments first, then 0.
func TestOne(t *testing.T) {
	for _, n := range edges {
		both(t, prog(fun(0, 2, set(1, n), ret(1))), api.Task{Fuel: 2}).ends(t, 9, n, api.OK)
		both(t, prog(fun(0, 2, set(1, n), ret(0))), api.Task{Fuel: 2}).ends(t, 9, 0, api.OK)
		both(t, prog(fun(2, 3, op(api.OpCopy, 0, 1, 0), ret(0))), api.Task{Args: []int64{5, n}, Fuel: 2}).ends(t, 9, n, api.OK)
		w := int64(8)
		if n == 0 {
			w = 9
		}
		both(t, prog(fun(1, 2, when(0, 3), set(1, 9), ret(1), set(1, 8), ret(1))), api.Task{Args: []int64{n}, Fuel: 3}).ends(t, 9, w, api.OK)
	}
	both(t, prog(fun(0, 2, on(3), set(0, 5), ret(0), on(1))), api.Task{Fuel: 4}).ends(t, 9, 5, api.OK)
	both(t, prog(fun(0, 1, set(0, 0), ret(0)), fun(0, 1, set(0, 6), ret(0))), api.Task{Func: 1, Fuel: 4}).ends(t, 9, 6, api.OK)
	for args := range 17 {
		input := make([]int64, args)
		for i := range input {
			input[i] = int64(100 + i)
		}
		for r := range 16 {
			w := int64(0)
			if r < args {
				w = int64(100 + r)
			}
			both(t, prog(fun(args, 16, ret(r))), api.Task{Args: input, Fuel: 1}).ends(t, 1, w, api.OK)
		}
	}
}

// span is where elements stand: from one byte to the one behind the last one's.
func span[T any](l []T) (from, to uintptr) {
	var x T
	from = uintptr(unsafe.Pointer(unsafe.SliceData(l)))
	return from, from + uintptr(cap(l))*unsafe.Sizeof(x)
}

// shared tells whether two lists stand in the same memory; nil stands nowhere.
func shared[T any](a, b []T) bool {
	if a == nil || b == nil {
		return false
	}
	af, at := span(a)
	bf, bt := span(b)
	return af == bf && af < max(at, bt) || af < bt && bf < at
}

// apart fails if two of these lists stand in the same memory.
func apart[T any](t *testing.T, lists ...[]T) {
	t.Helper()
	for i, a := range lists {
		for k, b := range lists[:i] {
			if shared(a, b) {
				t.Errorf("lists %d and %d are one", k, i)
			}
		}
	}
}

// TestNewMemory (R5): arguments are neither kept nor changed; each list of an answer is its own.
func TestNewMemory(t *testing.T) {
	p := prog(fun(2, 3, fork(0, 0, 1), fork(1, 0, 1), op(api.OpMul, 2, 0, 1), ret(2)), fun(2, 2, ret(0)))
	x := api.Task{Args: []int64{6, 7}, Fuel: 99}
	was := code.Copy(p)
	f, _ := New(p, x)
	w := plainNew(p, x)
	if !code.Same(p, was) || !slices.Equal(x.Args, []int64{6, 7}) {
		t.Error("New changes its arguments")
	}
	task := f.Task()
	clear(x.Args)
	clear(f.Task().Args)
	clear(p.Funcs[0].Ops)
	clear(p.Funcs)
	c := pair{f, w}
	c.hold(t)
	a := c.run(t, 1)
	clear(a.Kid.Args)
	b := c.run(t, 1)
	clear(c.f.Waits())
	apart(t, x.Args, task.Args, f.Task().Args, f.Task().Args, a.Kid.Args, b.Kid.Args)
	apart(t, c.f.Waits(), c.f.Waits())
	c.hold(t)
	c.give(t, 1, value(2))
	c.give(t, 2, value(3))
	c.ends(t, 9, 42, api.OK)
	some := make([]int64, 3)
	g, _ := New(prog(fun(0, 1, fork(0, 5, 0), ret(0))), api.Task{Args: some[1:1], Fuel: 9})
	s, _ := g.Run(1)
	apart(t, some, g.Task().Args, s.Kid.Args)
}

// TestOwn (R6): what is done to one frame is nothing to another one of the same task.
func TestOwn(t *testing.T) {
	p := fib()
	x := api.Task{Args: []int64{5}, Fuel: 400}
	a, b := both(t, p, x), both(t, p, x)
	a.run(t, 99)
	a.give(t, 1, value(8))
	a.run(t, 99)
	b.hold(t)
	b.run(t, 2)
	a.give(t, 2, err(3))
	b.run(t, 99)
	a.ends(t, 1, 0, 3)
	b.run(t, 99)
	b.give(t, 2, value(2))
	b.give(t, 1, value(3))
	b.ends(t, 9, 5, api.OK)
}

// world is all tasks of a program that were begun, and what it takes to have them go on in any order.
type world struct {
	r      *rand.Rand
	p      api.Program
	frames map[string]pair
	came   map[string]api.Result
	paths  []string // of those that are not over
	ready  []string // those that are over, and were not given to their parents
}

func (w *world) begin(t *testing.T, x api.Task) {
	t.Helper()
	w.frames[x.Path] = both(t, w.p, x)
	w.paths = append(w.paths, x.Path)
}

// turn has one of them go on by some ops.
func (w *world) turn(t *testing.T) {
	t.Helper()
	i := w.r.Intn(len(w.paths))
	path := w.paths[i]
	s := w.frames[path].run(t, 1+w.r.Intn(1+w.r.Intn(9)))
	switch s.Kind {
	case api.StopFork:
		w.begin(t, s.Kid)
	case api.StopDone:
		w.came[path] = s.Result
		w.paths = slices.Delete(w.paths, i, i+1)
		w.ready = append(w.ready, path)
	}
}

// hand gives what one of them came to to its parent, which may be over by then.
func (w *world) hand(t *testing.T) {
	t.Helper()
	i := w.r.Intn(len(w.ready))
	path := w.ready[i]
	w.ready = slices.Delete(w.ready, i, i+1)
	up, is := branch.Parent(path)
	if !is {
		return
	}
	_, over := w.came[up]
	if e := w.frames[up].give(t, branch.Last(path), w.came[path]); over != (e == api.ErrState) || !over && e != api.OK {
		t.Fatalf("Give of %q: %v", path, e)
	}
}

// hold does all tasks of a program in a drawn order, and holds them against what layer 13 says.
func hold(t *testing.T, r *rand.Rand, p api.Program, input []int64, fuel int) []api.Done {
	t.Helper()
	root, e := eval.Root(p, input, fuel)
	l, _ := eval.Tree(p, input, fuel, fuel+1)
	if e != api.OK {
		t.Fatalf("%v, %v, %d: %v", p, input, fuel, e)
	}
	w := &world{r: r, p: p, frames: map[string]pair{}, came: map[string]api.Result{}}
	w.begin(t, root)
	late := r.Intn(4) // how much rather they go on than are given what they wait for
	for len(w.paths)+len(w.ready) > 0 {
		if len(w.ready) == 0 || len(w.paths) > 0 && r.Intn(4) < late {
			w.turn(t)
		} else {
			w.hand(t)
		}
	}
	if len(w.frames) != len(l) {
		t.Fatalf("%v, %v, %d: %d tasks, want %d", p, input, fuel, len(w.frames), len(l))
	}
	for _, d := range l {
		c, is := w.frames[d.Task.Path]
		if !is || !sameTask(c.f.Task(), d.Task) || w.came[d.Task.Path] != d.Result || c.f.Kids() != d.Kids {
			t.Fatalf("%v, %v, %d: %q came to %v, want %v", p, input, fuel, d.Task.Path, w.came[d.Task.Path], d)
		}
	}
	return l
}

// drawnFork is a fork of a function with so many registers; mostly of one that stands behind it, so that not all fuel goes into forks.
func drawnFork(r *rand.Rand, heads []api.Func, own, regs int) api.Op {
	fn := r.Intn(len(heads))
	if fn <= own && r.Intn(5) > 0 {
		fn = len(heads) - 1
	}
	n := heads[fn].Args
	switch {
	case n > regs || fn <= own && r.Intn(3) > 0:
		return joined
	case n == 0:
		return fork(r.Intn(regs), r.Intn(17), int64(fn))
	}
	return fork(r.Intn(regs), r.Intn(regs-n+1), int64(fn))
}

// drawnOp is an op that may stand at the place at of a function with so many registers and ops.
func drawnOp(r *rand.Rand, heads []api.Func, own, at, ops int) api.Op {
	regs := heads[own].Regs
	reg := func() int { return r.Intn(regs) }
	goes := func() int64 {
		if at+1 < ops && r.Intn(6) > 0 {
			return int64(at + 1 + r.Intn(ops-at-1))
		}
		return int64(r.Intn(ops))
	}
	if at == ops-1 {
		if r.Intn(8) == 0 {
			return on(int64(r.Intn(ops)))
		}
		return ret(reg())
	}
	switch r.Intn(12) {
	case 0, 1, 2, 3:
		return set(reg(), edges[r.Intn(len(edges))])
	case 4:
		return op(api.OpCopy, reg(), reg(), 0)
	case 5:
		return joined
	case 6:
		return when(reg(), goes())
	case 7, 8, 9:
		return drawnFork(r, heads, own, regs)
	}
	do := api.OpAdd + uint8(r.Intn(7))
	return op(do, reg(), reg(), reg())
}

// drawn is a program that can be run, and an input.
func drawn(r *rand.Rand) (p api.Program, input []int64) {
	for range 1 + r.Intn(4) {
		regs := 1 + r.Intn(6)
		p.Funcs = append(p.Funcs, fun(r.Intn(min(regs, 3)+1), regs))
	}
	for i := range p.Funcs {
		f := &p.Funcs[i]
		n := 1 + r.Intn(14)
		for at := range n {
			f.Ops = append(f.Ops, drawnOp(r, p.Funcs, i, at, n))
		}
	}
	for range p.Funcs[0].Args {
		input = append(input, edges[r.Intn(len(edges))])
	}
	return p, input
}

// TestWhole (P14.4): programs that make something, in drawn orders.
func TestWhole(t *testing.T) {
	r := rand.New(rand.NewSource(41))
	for range 40 {
		if l := hold(t, r, fib(), []int64{7}, 3000); l[0].Result != value(13) || len(l) != 41 {
			t.Fatal(l[0], len(l))
		}
	}
	if l := hold(t, r, fib(), []int64{40}, 65536); l[0].Result.Err != api.ErrDeep {
		t.Error(l[0])
	}
	hold(t, r, fib(), []int64{10}, 600)
}

// TestDrawn (P14.4): drawn programs, in drawn orders, come to what layer 13 says.
func TestDrawn(t *testing.T) {
	r := rand.New(rand.NewSource(14))
	came := map[api.Errno]int{}
	parents := 0
	for range 6000 {
		p, input := drawn(r)
		if e := check.Input(p, input); e != api.OK {
			t.Fatalf("%v: %v", p, e)
		}
		fuel := r.Intn([]int{40, 600}[r.Intn(2)])
		for _, d := range hold(t, r, p, input, fuel) {
			came[d.Result.Err]++
			if d.Kids > 0 && d.Result.Value != 0 {
				parents++
			}
		}
	}
	if came[api.OK] < 3000 || came[api.ErrFuel] < 4000 || came[api.ErrZero] < 800 || parents < 200 {
		t.Errorf("tasks came to %v; %d of them with children to values", came, parents)
	}
}

// calls does drawn calls of one frame of a task, wrong ones among them, whatever its children would come to; it tells how it stopped, and by which errors.
func calls(t *testing.T, r *rand.Rand, c pair, stops map[uint8]int, errs map[api.Errno]int) {
	t.Helper()
	for range 2 + r.Intn(40) {
		if r.Intn(3) > 0 {
			n := []int{1, 1, 2, 3, 9, math.MaxInt, 0, -1}[r.Intn(8)]
			s := c.run(t, n)
			stops[s.Kind]++
			if s.Kind == api.StopDone {
				errs[s.Result.Err]++
			}
			continue
		}
		x := value(edges[r.Intn(len(edges))])
		if r.Intn(6) == 0 {
			x.Err = api.Errno(r.Intn(300) - 50)
		}
		errs[c.give(t, r.Intn(c.f.Kids()+3)-1, x)]++
	}
}

// TestCalls (P14.1 to P14.3): drawn tasks of drawn programs, and drawn calls.
func TestCalls(t *testing.T) {
	r := rand.New(rand.NewSource(2))
	stops, errs := map[uint8]int{}, map[api.Errno]int{}
	for range 20000 {
		p, _ := drawn(r)
		x := api.Task{Path: strings.Repeat("\x04", r.Intn(13)), Func: r.Intn(len(p.Funcs)), Fuel: r.Intn([]int{12, 300, 65537}[r.Intn(3)])}
		for range p.Funcs[x.Func].Args {
			x.Args = append(x.Args, edges[r.Intn(len(edges))])
		}
		calls(t, r, both(t, p, x), stops, errs)
	}
	for kind := uint8(0); kind <= 4; kind++ {
		if stops[kind] < 3000 {
			t.Errorf("stops: %v", stops)
		}
	}
	for _, e := range []api.Errno{api.OK, api.ErrNone, api.ErrThere, api.ErrState, api.ErrFuel, api.ErrZero, api.ErrDeep} {
		if errs[e] < 500 {
			t.Errorf("errors: %v", errs)
		}
	}
}

// FuzzRun looks for programs that are run wrongly, in some order.
func FuzzRun(f *testing.F) {
	for _, p := range []api.Program{fib(), prog(fun(0, 1, fork(0, 16, 0), joined, ret(0))), prog(fun(0, 1, op(api.OpMod, 0, 0, 0), ret(0))), prog(fun(0, 0, on(0)))} {
		s, _ := code.Encode(p)
		f.Add(s, int64(5), 500, int64(1))
	}
	f.Fuzz(func(t *testing.T, s string, a int64, fuel int, seed int64) {
		p, e := code.Decode(s)
		if e != api.OK {
			return
		}
		if e, _, _ := check.May(p); e != api.OK {
			refused(t, p, api.Task{}, e)
			return
		}
		r := rand.New(rand.NewSource(seed))
		input := slices.Repeat([]int64{a}, p.Funcs[0].Args)
		if fuel < 0 || fuel > api.MaxFuel {
			refused(t, p, api.Task{Args: input, Fuel: fuel}, api.ErrArg)
			return
		}
		hold(t, r, p, input, fuel%1000)
		calls(t, r, both(t, p, api.Task{Args: input, Fuel: fuel}), map[uint8]int{}, map[api.Errno]int{})
	})
}

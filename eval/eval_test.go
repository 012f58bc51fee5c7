package eval

import (
	"math"
	"math/big"
	"math/rand"
	"slices"
	"strings"
	"testing"
	"unsafe"

	"thresher/api"
	"thresher/branch"
	"thresher/check"
	"thresher/code"
)

// plainNumber is a number of any size, gone round to 64 bits.
func plainNumber(x *big.Int) int64 {
	mask := new(big.Int).SetUint64(math.MaxUint64)
	return int64(new(big.Int).And(x, mask).Uint64())
}

// plainMake is what an op makes of two numbers, by numbers of any size.
func plainMake(do uint8, a, b int64) (int64, api.Errno) {
	x, y, z := big.NewInt(a), big.NewInt(b), new(big.Int)
	if (do == 6 || do == 7) && b == 0 {
		return 0, 131
	}
	switch do {
	case 3:
		z.Add(x, y)
	case 4:
		z.Sub(x, y)
	case 5:
		z.Mul(x, y)
	case 6:
		z.Quo(x, y)
	case 7:
		z.Rem(x, y)
	case 8:
		if x.Cmp(y) < 0 {
			z.SetInt64(1)
		}
	case 9:
		if x.Cmp(y) == 0 {
			z.SetInt64(1)
		}
	}
	return plainNumber(z), 0
}

// plainTask is a task that is done some ops at a time, by turns with all others.
type plainTask struct {
	begun      api.Task
	regs       [16]int64
	at, left   int
	into       []int // the registers of all forks, by their numbers
	joined     int   // how many of them were joined
	paid, over bool
	came       api.Result
}

// plainWorld is all tasks of a program, by their paths.
type plainWorld struct {
	p     api.Program
	tasks map[string]*plainTask
}

func (t *plainTask) end(v int64, e api.Errno) {
	t.over, t.came = true, api.Result{Value: v, Err: e}
	if e != 0 {
		t.came.Value = 0
	}
}

func (w plainWorld) add(begun api.Task) {
	t := &plainTask{begun: begun, left: begun.Fuel}
	copy(t.regs[:], begun.Args)
	w.tasks[begun.Path] = t
}

// kid is a task's n-th child.
func (w plainWorld) kid(t *plainTask, n int) *plainTask {
	return w.tasks[t.begun.Path+string([]byte{byte(n)})]
}

// fork is an OpFork, that is paid for.
func (w plainWorld) fork(t *plainTask, o api.Op) {
	n := len(t.into) + 1
	if n > 16 {
		t.end(0, 132)
		return
	}
	if len(t.begun.Path) >= 12 {
		t.end(0, 133)
		return
	}
	half := t.left / 2
	t.left = t.left - half
	args := make([]int64, w.p.Funcs[o.N].Args)
	for i := range args {
		args[i] = t.regs[o.A+i]
	}
	t.into = append(t.into, o.D)
	w.add(api.Task{Path: t.begun.Path + string([]byte{byte(n)}), Func: int(o.N), Args: args, Fuel: half})
}

// join tells whether the task goes on behind a join: all children were done, and none failed.
func (w plainWorld) join(t *plainTask) bool {
	for n := t.joined + 1; n <= len(t.into); n++ {
		if !w.kid(t, n).over {
			return false
		}
	}
	for n := t.joined + 1; n <= len(t.into); n++ {
		if e := w.kid(t, n).came.Err; e != 0 {
			t.end(0, e)
			return false
		}
	}
	for n := t.joined + 1; n <= len(t.into); n++ {
		t.regs[t.into[n-1]] = w.kid(t, n).came.Value
	}
	t.joined = len(t.into)
	return true
}

// step is one op of a task, or a look at what it waits for.
func (w plainWorld) step(t *plainTask) {
	o := w.p.Funcs[t.begun.Func].Ops[t.at]
	if !t.paid && t.left == 0 {
		t.end(0, 130)
		return
	}
	if !t.paid {
		t.left--
		t.paid = true
	}
	goes := t.at + 1
	switch {
	case o.Do == 1:
		t.regs[o.D] = o.N
	case o.Do == 2:
		t.regs[o.D] = t.regs[o.A]
	case o.Do <= 9:
		v, e := plainMake(o.Do, t.regs[o.A], t.regs[o.B])
		if e != 0 {
			t.end(0, e)
			return
		}
		t.regs[o.D] = v
	case o.Do == 10, o.Do == 11 && t.regs[o.A] != 0:
		goes = int(o.N)
	case o.Do == 12:
		w.fork(t, o)
	case o.Do == 13, o.Do == 14:
		if !w.join(t) {
			return
		}
		if o.Do == 14 {
			t.end(t.regs[o.A], 0)
		}
	}
	t.at, t.paid = goes, false
}

// plainAhead tells whether a path comes ahead of another one.
func plainAhead(a, b string) bool {
	for i := 0; i < len(a) && i < len(b); i++ {
		if a[i] != b[i] {
			return a[i] < b[i]
		}
	}
	return len(a) < len(b)
}

// plainTree is all tasks of a program that can be run: all that are there get some ops each, round by round.
func plainTree(p api.Program, input []int64, fuel int) (l []api.Done) {
	w := plainWorld{p, map[string]*plainTask{}}
	w.add(api.Task{Args: input, Fuel: fuel})
	for w.round() {
	}
	for _, t := range w.tasks {
		l = append(l, api.Done{Task: t.begun, Result: t.came, Kids: len(t.into)})
	}
	slices.SortFunc(l, func(a, b api.Done) int {
		if plainAhead(a.Task.Path, b.Task.Path) {
			return -1
		}
		return 1
	})
	return l
}

// round gives each task that is not over five ops; it tells whether there was one.
func (w plainWorld) round() bool {
	some := false
	var now []*plainTask
	for _, t := range w.tasks {
		now = append(now, t)
	}
	for _, t := range now {
		for n := 0; n < 5 && !t.over; n++ {
			some = true
			w.step(t)
		}
	}
	return some
}

// plainFault is the error of Root.
func plainFault(p api.Program, input []int64, fuel int) api.Errno {
	if e, _, _ := check.May(p); e != 0 {
		return e
	}
	if len(input) != p.Funcs[0].Args {
		return 114
	}
	if fuel < 0 || fuel > 65536 {
		return 2
	}
	return 0
}

func sameTask(a, b api.Task) bool {
	return a.Path == b.Path && a.Func == b.Func && a.Fuel == b.Fuel && slices.Equal(a.Args, b.Args)
}

func sameDone(a, b api.Done) bool {
	return sameTask(a.Task, b.Task) && a.Result == b.Result && a.Kids == b.Kids
}

// wrong fails if a call that is refused answers anything else.
func wrong(t *testing.T, p api.Program, input []int64, fuel int, e api.Errno) {
	t.Helper()
	if r, x := Root(p, input, fuel); !sameTask(r, api.Task{}) || x != e {
		t.Fatalf("Root(%v, %v, %d): %v, %v, want %v", p, input, fuel, r, x, e)
	}
	if r, x := Eval(p, input, fuel); r != (api.Result{}) || x != e {
		t.Fatalf("Eval(%v, %v, %d): %v, %v, want %v", p, input, fuel, r, x, e)
	}
	for _, most := range []int{math.MinInt, -1, 0, 1, math.MaxInt} {
		if l, x := Tree(p, input, fuel, most); len(l) != 0 || x != e {
			t.Fatalf("Tree(%v, %v, %d, %d): %v, %v, want %v", p, input, fuel, most, l, x, e)
		}
	}
}

// holdTree holds what Tree tells against all tasks, if there may be so many.
func holdTree(t *testing.T, p api.Program, input []int64, fuel, most int, w []api.Done) {
	t.Helper()
	l, e := Tree(p, input, fuel, most)
	if len(w) > most {
		if len(l) != 0 || e != 134 {
			t.Fatalf("Tree(%v, %v, %d, %d): %d tasks, %v, want ErrTasks: there are %d", p, input, fuel, most, len(l), e, len(w))
		}
		return
	}
	if e != 0 || len(l) != len(w) {
		t.Fatalf("Tree(%v, %v, %d, %d): %d tasks, %v, want %d", p, input, fuel, most, len(l), e, len(w))
	}
	for i := range l {
		if !sameDone(l[i], w[i]) {
			t.Fatalf("Tree(%v, %v, %d, %d): task %d is %v, want %v", p, input, fuel, most, i, l[i], w[i])
		}
	}
}

// hold holds all that is told of a program against what the chapter says of it; it answers all tasks.
func hold(t *testing.T, p api.Program, input []int64, fuel int) []api.Done {
	t.Helper()
	if e := plainFault(p, input, fuel); e != 0 {
		wrong(t, p, input, fuel, e)
		return nil
	}
	was, given := code.Copy(p), slices.Clone(input)
	w := plainTree(p, slices.Clone(input), fuel)
	if r, e := Root(p, input, fuel); !sameTask(r, api.Task{Args: given, Fuel: fuel}) || e != 0 {
		t.Fatalf("Root(%v, %v, %d): %v, %v", p, input, fuel, r, e)
	}
	if r, e := Eval(p, input, fuel); r != w[0].Result || e != 0 {
		t.Fatalf("Eval(%v, %v, %d): %v, %v, want %v", p, input, fuel, r, e, w[0].Result)
	}
	for _, most := range []int{math.MaxInt, len(w), len(w) - 1, 0, -1, math.MinInt} {
		holdTree(t, p, input, fuel, most, w)
	}
	if !code.Same(p, was) || !slices.Equal(input, given) {
		t.Fatalf("%v, %v were changed: they are %v, %v", was, given, p, input)
	}
	return w
}

// want holds what a program comes to against what is wanted by hand, and against the chapter's words.
func want(t *testing.T, what string, p api.Program, input []int64, fuel int, value int64, err api.Errno) []api.Done {
	t.Helper()
	if r, e := Eval(p, input, fuel); r.Value != value || r.Err != err || e != api.OK {
		t.Errorf("%s: %v, %v, want %v, %v", what, r, e, value, err)
	}
	return hold(t, p, input, fuel)
}

func set(d int, n int64) api.Op       { return api.Op{Do: api.OpSet, D: d, N: n} }
func op(do uint8, d, a, b int) api.Op { return api.Op{Do: do, D: d, A: a, B: b} }
func on(n int64) api.Op               { return api.Op{Do: api.OpGo, N: n} }
func when(a int, n int64) api.Op      { return api.Op{Do: api.OpIf, A: a, N: n} }
func fork(d, a int, fn int64) api.Op  { return api.Op{Do: api.OpFork, D: d, A: a, N: fn} }
func ret(a int) api.Op                { return api.Op{Do: api.OpReturn, A: a} }

var joined = api.Op{Do: api.OpJoin}

// fun is a function of so many arguments and registers.
func fun(args, regs int, l ...api.Op) api.Func { return api.Func{Args: args, Regs: regs, Ops: l} }

func prog(l ...api.Func) api.Program { return api.Program{Funcs: l} }

// fib is a program that forks for the two numbers ahead.
func fib() api.Program {
	return prog(fun(1, 4, set(1, 2), op(api.OpLess, 2, 0, 1), when(2, 10), set(1, 1), op(api.OpSub, 2, 0, 1), fork(2, 2, 0), op(api.OpSub, 3, 2, 1), fork(3, 3, 0), joined, op(api.OpAdd, 0, 2, 3), ret(0)))
}

// power is a program that goes round, and forks nothing: its first input as often as the second one says.
func power() api.Program {
	return prog(fun(2, 4, set(2, 1), set(3, 1), when(1, 4), ret(3), op(api.OpMul, 3, 3, 0), op(api.OpSub, 1, 1, 2), on(2)))
}

// TestErrors: the errors and limits that the chapter names are what this package's tests go by.
func TestErrors(t *testing.T) {
	if api.ErrFuel != 130 || api.ErrZero != 131 || api.ErrKids != 132 || api.ErrDeep != 133 || api.ErrTasks != 134 || api.ErrInput != 114 || api.ErrArg != 2 {
		t.Error(api.ErrFuel, api.ErrZero, api.ErrKids, api.ErrDeep, api.ErrTasks, api.ErrInput, api.ErrArg)
	}
	if api.MaxFuel != 65536 || api.MaxKids != 16 || api.MaxDeep != 12 {
		t.Error(api.MaxFuel, api.MaxKids, api.MaxDeep)
	}
}

// TestExamples: the chapter's examples.
func TestExamples(t *testing.T) {
	seven := prog(fun(0, 1, set(0, 7), ret(0)))
	want(t, "with fuel 2", seven, nil, 2, 7, api.OK)
	want(t, "with fuel 1", seven, nil, 1, 0, api.ErrFuel)
	l := want(t, "a fork of itself", prog(fun(0, 1, fork(0, 0, 0), ret(0))), nil, 3, 0, api.ErrFuel)
	if len(l) != 3 || l[0].Task.Fuel != 3 || l[1].Task.Fuel != 1 || l[2].Task.Fuel != 0 {
		t.Errorf("a fork of itself: %v", l)
	}
	want(t, "by 0", prog(fun(0, 1, op(api.OpDiv, 0, 0, 0), ret(0))), nil, 9, 0, api.ErrZero)
}

// TestPrograms (P13.2): programs that make something of what they are given.
func TestPrograms(t *testing.T) {
	for n, w := range []int64{0, 1, 1, 2, 3, 5, 8, 13, 21, 34, 55} {
		want(t, "fib", fib(), []int64{int64(n)}, 65536, w, api.OK)
	}
	want(t, "fib of less", fib(), []int64{-5}, 65536, -5, api.OK)
	want(t, "fib of too much", fib(), []int64{40}, 65536, 0, api.ErrDeep)
	want(t, "fib of too little fuel", fib(), []int64{10}, 600, 0, api.ErrFuel)
	want(t, "3 to the 5th", power(), []int64{3, 5}, 99, 243, api.OK)
	want(t, "3 to the 41st goes round", power(), []int64{3, 41}, 999, -420491770248316829, api.OK)
	want(t, "-2 to the 63rd", power(), []int64{-2, 63}, 999, math.MinInt64, api.OK)
	want(t, "2 to the 64th", power(), []int64{2, 64}, 999, 0, api.OK)
	want(t, "without end", power(), []int64{1, -1}, 65536, 0, api.ErrFuel)
}

// TestRoot (P13.1): an empty path, the first function, the input, the fuel.
func TestRoot(t *testing.T) {
	for args := range 17 {
		p := prog(fun(args, 16, ret(0)), fun(3, 3, ret(0)))
		for n := range 18 {
			input := make([]int64, n)
			for i := range input {
				input[i] = int64(i) - 7
			}
			for _, fuel := range []int{0, 1, 65535, 65536} {
				r, e := Root(p, input, fuel)
				if n == args && (e != api.OK || r.Path != "" || r.Func != 0 || r.Fuel != fuel || !slices.Equal(r.Args, input)) {
					t.Errorf("%d numbers, fuel %d: %v, %v", n, fuel, r, e)
				}
				if n != args && e != api.ErrInput {
					t.Errorf("%d numbers of %d: %v, %v", n, args, r, e)
				}
				hold(t, p, input, fuel)
			}
		}
	}
	hold(t, prog(fun(0, 1, ret(0))), []int64{}, 3)
}

// TestFaults (P13.1 to P13.3, R2): what is wrong with a program, then with its input, then with its fuel, and then only whether there are too many tasks.
func TestFaults(t *testing.T) {
	good := prog(fun(1, 1, ret(0)))
	for _, fuel := range []int{math.MinInt, -65536, -1, 65537, 1 << 32, 1<<32 + 5, math.MaxInt} {
		wrong(t, good, []int64{1}, fuel, api.ErrArg)
		wrong(t, good, nil, fuel, api.ErrInput)
		wrong(t, good, []int64{1, 2}, fuel, api.ErrInput)
		wrong(t, prog(), nil, fuel, api.ErrFuncs)
		wrong(t, prog(fun(1, 1)), []int64{1}, fuel, api.ErrEnds)
	}
	for _, input := range [][]int64{nil, {1}, {1, 2}} {
		for fuel := range 3 {
			wrong(t, prog(), input, fuel, api.ErrFuncs)
			wrong(t, prog(fun(2, 1, ret(0))), input, fuel, api.ErrFuncs)
			wrong(t, prog(fun(0, 17, ret(0))), input, fuel, api.ErrForm)
			wrong(t, prog(fun(0, 1, api.Op{}, ret(0))), input, fuel, api.ErrForm)
			wrong(t, prog(fun(0, 1, api.Op{Do: 15}, ret(0))), input, fuel, api.ErrForm)
			wrong(t, prog(fun(0, 1, ret(-1))), input, fuel, api.ErrForm)
			wrong(t, prog(fun(0, 1, ret(1))), input, fuel, api.ErrReg)
			wrong(t, prog(fun(0, 1, ret(0)), fun(0, 1, on(1))), input, fuel, api.ErrTarget)
			wrong(t, prog(fun(0, 1, fork(0, 0, -1), ret(0))), input, fuel, api.ErrTarget)
			wrong(t, prog(fun(0, 1, set(0, 1))), input, fuel, api.ErrEnds)
			wrong(t, prog(slices.Repeat([]api.Func{fun(1, 1, ret(0))}, 17)...), input, fuel, api.ErrForm)
		}
	}
}

// edges are numbers at which something could go wrong.
var edges = []int64{math.MinInt64, math.MinInt64 + 1, math.MinInt64 / 2, -1 << 32, -1<<31 - 1, -8, -7, -3, -2, -1, 0, 1, 2, 3, 7, 8, 1 << 31, 1 << 32, 3037000500, math.MaxInt64 / 2, math.MaxInt64 - 1, math.MaxInt64}

// TestTwo (P13.2): what ops make of two numbers, whichever registers they have.
func TestTwo(t *testing.T) {
	for do := api.OpAdd; do <= api.OpSame; do++ {
		for _, a := range edges {
			for _, b := range edges {
				w, e := plainMake(do, a, b)
				want(t, "two numbers", prog(fun(2, 3, op(do, 2, 0, 1), ret(2))), []int64{a, b}, 2, w, e)
				want(t, "into the first one", prog(fun(2, 2, op(do, 0, 0, 1), ret(0))), []int64{a, b}, 9, w, e)
				want(t, "into the second one", prog(fun(2, 2, op(do, 1, 0, 1), ret(1))), []int64{a, b}, 9, w, e)
			}
			w, e := plainMake(do, a, a)
			want(t, "a number with itself", prog(fun(1, 1, op(do, 0, 0, 0), ret(0))), []int64{a}, 2, w, e)
		}
	}
}

// TestTwoByHand (P13.2): by hand.
func TestTwoByHand(t *testing.T) {
	const least, greatest = math.MinInt64, math.MaxInt64
	for _, x := range []struct {
		do      uint8
		a, b, w int64
		err     api.Errno
	}{
		{api.OpAdd, 2, 3, 5, 0}, {api.OpAdd, greatest, 1, least, 0}, {api.OpAdd, least, -1, greatest, 0}, {api.OpAdd, least, least, 0, 0},
		{api.OpSub, 2, 3, -1, 0}, {api.OpSub, least, 1, greatest, 0}, {api.OpSub, 0, least, least, 0}, {api.OpSub, greatest, -1, least, 0},
		{api.OpMul, -2, 3, -6, 0}, {api.OpMul, least, -1, least, 0}, {api.OpMul, greatest, 2, -2, 0}, {api.OpMul, 1 << 32, 1 << 32, 0, 0},
		{api.OpDiv, 7, 2, 3, 0}, {api.OpDiv, -7, 2, -3, 0}, {api.OpDiv, 7, -2, -3, 0}, {api.OpDiv, -7, -2, 3, 0}, {api.OpDiv, least, -1, least, 0}, {api.OpDiv, 0, 5, 0, 0}, {api.OpDiv, 0, 0, 0, api.ErrZero}, {api.OpDiv, least, 0, 0, api.ErrZero},
		{api.OpMod, 7, 2, 1, 0}, {api.OpMod, -7, 2, -1, 0}, {api.OpMod, 7, -2, 1, 0}, {api.OpMod, -7, -2, -1, 0}, {api.OpMod, least, -1, 0, 0}, {api.OpMod, 0, 5, 0, 0}, {api.OpMod, 0, 0, 0, api.ErrZero}, {api.OpMod, 1, 0, 0, api.ErrZero},
		{api.OpLess, 1, 2, 1, 0}, {api.OpLess, 2, 2, 0, 0}, {api.OpLess, 3, 2, 0, 0}, {api.OpLess, least, greatest, 1, 0}, {api.OpLess, greatest, least, 0, 0}, {api.OpLess, -1, 0, 1, 0},
		{api.OpSame, 2, 2, 1, 0}, {api.OpSame, 2, 3, 0, 0}, {api.OpSame, least, least, 1, 0}, {api.OpSame, least, 0, 0, 0}, {api.OpSame, 1 << 32, 0, 0, 0},
	} {
		p := prog(fun(2, 3, set(2, 44), op(x.do, 2, 0, 1), ret(2)))
		want(t, "two numbers", p, []int64{x.a, x.b}, 3, x.w, x.err)
	}
}

// TestOne (P13.2): ops that no two numbers are reckoned by.
func TestOne(t *testing.T) {
	for _, n := range edges {
		want(t, "OpSet", prog(fun(0, 2, set(1, n), ret(1))), nil, 2, n, api.OK)
		want(t, "OpSet, another register", prog(fun(0, 2, set(1, n), ret(0))), nil, 2, 0, api.OK)
		want(t, "OpCopy", prog(fun(1, 2, op(api.OpCopy, 1, 0, 0), ret(1))), []int64{n}, 2, n, api.OK)
		want(t, "OpCopy, what it is of", prog(fun(1, 2, op(api.OpCopy, 1, 0, 0), ret(0))), []int64{n}, 2, n, api.OK)
		w := int64(8)
		if n == 0 {
			w = 9
		}
		p := prog(fun(1, 2, when(0, 3), set(1, 9), ret(1), set(1, 8), ret(1)))
		want(t, "OpIf", p, []int64{n}, 3, w, api.OK)
	}
	want(t, "OpGo", prog(fun(0, 1, on(2), set(0, 1), ret(0))), nil, 2, 0, api.OK)
	want(t, "OpGo, back", prog(fun(0, 2, on(3), set(0, 5), ret(0), on(1))), nil, 4, 5, api.OK)
	want(t, "OpIf, to itself", prog(fun(1, 1, when(0, 0), ret(0))), []int64{1}, 900, 0, api.ErrFuel)
	want(t, "OpIf, to the next one", prog(fun(1, 1, when(0, 1), ret(0))), []int64{4}, 2, 4, api.OK)
	want(t, "no registers", prog(fun(0, 0, joined, on(0))), nil, 65536, 0, api.ErrFuel)
}

// TestRegisters: the arguments first, then 0; and so it is for a child, whatever the function's registers were in its parent.
func TestRegisters(t *testing.T) {
	for args := range 17 {
		input := make([]int64, args)
		for i := range input {
			input[i] = int64(100 + i)
		}
		for r := range 16 {
			w := int64(0)
			if r < args {
				w = int64(100 + r)
			}
			want(t, "a root's register", prog(fun(args, 16, ret(r))), input, 1, w, api.OK)
		}
	}
	child := fun(2, 4, op(api.OpAdd, 3, 3, 2), op(api.OpSub, 3, 0, 1), ret(3))
	want(t, "a child's registers", prog(fun(3, 3, fork(0, 1, 1), ret(0)), child), []int64{1, 50, 8}, 99, 42, api.OK)
	want(t, "a child's own registers", prog(fun(1, 2, set(1, 5), fork(1, 0, 1), ret(0)), fun(1, 2, set(0, 9), ret(1))), []int64{3}, 99, 3, api.OK)
}

// TestFuel: each op costs one, whichever it is; the one that can't be paid is not done.
func TestFuel(t *testing.T) {
	ops := []api.Op{set(0, 1), op(api.OpCopy, 0, 0, 0), joined, on(4), when(0, 5), when(1, 0)}
	for do := api.OpAdd; do <= api.OpSame; do++ {
		ops = append(ops, op(do, 2, 0, 0))
	}
	ops = append(ops, ret(0))
	for fuel := range 40 {
		value, err := int64(0), api.ErrFuel
		if fuel >= len(ops) {
			value, err = 1, api.OK
		}
		want(t, "all ops", prog(fun(0, 3, ops...)), nil, fuel, value, err)
	}
	zero := prog(fun(0, 1, set(0, 0), op(api.OpMod, 0, 0, 0), ret(0)))
	want(t, "by 0, unpaid", zero, nil, 1, 0, api.ErrFuel)
	want(t, "by 0, paid", zero, nil, 2, 0, api.ErrZero)
	forks := prog(fun(0, 1, fork(0, 0, 1), ret(0)), fun(0, 1, ret(0)))
	for fuel, kids := range []int{0, 1, 1, 1, 1} {
		l := hold(t, forks, nil, fuel)
		if len(l) != kids+1 || l[0].Kids != kids {
			t.Errorf("fuel %d: %v", fuel, l)
		}
	}
	most := prog(fun(0, 1, set(0, 1), on(0)))
	want(t, "MaxFuel", most, nil, 65536, 0, api.ErrFuel)
}

// TestHalves: a child has half of what is left, rounded down, behind the fork's own cost; the task has what is left then.
func TestHalves(t *testing.T) {
	p := prog(fun(0, 1, fork(0, 0, 1), fork(0, 0, 1), fork(0, 0, 1), on(3)), fun(0, 1, on(0)))
	for fuel := 0; fuel <= 65536; fuel += 1 + fuel/50 {
		l, e := Tree(p, nil, fuel, 4)
		left := fuel
		for n := 1; n <= 3 && left > 0; n++ {
			left--
			if n >= len(l) || e != api.OK || l[n].Task.Fuel != left/2 {
				t.Fatalf("fuel %d: child %d of %v, %v, want %d", fuel, n, l, e, left/2)
			}
			left -= left / 2
		}
	}
	for fuel := range 80 {
		hold(t, p, nil, fuel)
	}
	l := hold(t, prog(fun(0, 1, fork(0, 0, 1), ret(0)), fun(0, 1, ret(0))), nil, 65536)
	if l[1].Task.Fuel != 32767 {
		t.Errorf("half of 65535: %v", l)
	}
}

// TestFork: a child does the function that is named, with the registers from A on, by the next number; its value comes into D.
func TestFork(t *testing.T) {
	p := prog(
		fun(0, 5, set(1, 7), set(2, 2), fork(3, 1, 2), set(1, 100), fork(4, 1, 3), joined, op(api.OpMul, 0, 3, 4), ret(0)),
		fun(0, 1, ret(0)),
		fun(2, 3, op(api.OpSub, 2, 0, 1), ret(2)),
		fun(2, 3, op(api.OpAdd, 2, 0, 1), ret(2)),
	)
	l := want(t, "two children", p, nil, 100, 510, api.OK)
	kids := []api.Done{
		{Task: api.Task{Path: "\x01", Func: 2, Args: []int64{7, 2}, Fuel: 48}, Result: api.Result{Value: 5}},
		{Task: api.Task{Path: "\x02", Func: 3, Args: []int64{100, 2}, Fuel: 23}, Result: api.Result{Value: 102}},
	}
	if len(l) != 3 || l[0].Kids != 2 || !sameDone(l[1], kids[0]) || !sameDone(l[2], kids[1]) {
		t.Errorf("two children: %v", l)
	}
	for args := range 17 {
		for a := 0; a+args <= 16; a++ {
			ops := make([]api.Op, 16)
			for i := range ops {
				ops[i] = set(i, int64(i*i))
			}
			q := prog(fun(0, 16, append(ops, fork(15, a, 1), ret(15))...), fun(args, 16, op(api.OpAdd, 0, 0, 15), ret(0)))
			l := hold(t, q, nil, 99)
			if len(l) != 2 || len(l[1].Task.Args) != args || args > 0 && l[1].Task.Args[args-1] != int64((a+args-1)*(a+args-1)) {
				t.Errorf("%d arguments from %d on: %v", args, a, l)
			}
		}
	}
}

// TestForkNoArguments: a function without arguments is begun from any A, even from one that is no register.
func TestForkNoArguments(t *testing.T) {
	for regs := 1; regs <= 16; regs++ {
		for a := range 17 {
			p := prog(fun(0, regs, fork(regs-1, a, 1), ret(regs-1)), fun(0, 1, set(0, 6), ret(0)))
			want(t, "no arguments", p, nil, 9, 6, api.OK)
		}
	}
}

// Functions of children: one that returns its argument, one that fails, one that comes to no end.
var (
	echo = fun(1, 1, ret(0))
	fail = fun(0, 1, op(api.OpDiv, 0, 0, 0), ret(0))
	dull = fun(0, 1, on(0))
)

// TestJoin: values come at the join, not ahead of it, one after the other; each child is joined once.
func TestJoin(t *testing.T) {
	f := func(ops ...api.Op) api.Program { return prog(fun(0, 4, ops...), echo, fail, dull) }
	want(t, "not ahead of the join", f(set(0, 5), set(1, 8), fork(1, 0, 1), op(api.OpCopy, 2, 1, 0), joined, ret(2)), nil, 99, 8, api.OK)
	want(t, "at the join", f(set(0, 5), set(1, 8), fork(1, 0, 1), joined, op(api.OpCopy, 2, 1, 0), ret(2)), nil, 99, 5, api.OK)
	want(t, "at the return", f(set(0, 5), fork(1, 0, 1), ret(1)), nil, 99, 5, api.OK)
	want(t, "over what was put there", f(set(0, 5), fork(1, 0, 1), set(1, 3), joined, ret(1)), nil, 99, 5, api.OK)
	want(t, "over its own argument", f(set(0, 5), fork(0, 0, 1), set(0, 3), ret(0)), nil, 99, 5, api.OK)
	want(t, "the last one of two", f(set(0, 5), fork(1, 0, 1), set(0, 6), fork(1, 0, 1), joined, ret(1)), nil, 99, 6, api.OK)
	want(t, "joined once", f(set(0, 5), fork(1, 0, 1), joined, set(1, 4), joined, ret(1)), nil, 99, 4, api.OK)
	want(t, "a second one", f(set(0, 5), fork(1, 0, 1), joined, set(1, 4), fork(2, 1, 1), joined, op(api.OpMul, 3, 1, 2), ret(3)), nil, 99, 16, api.OK)
	want(t, "no children", f(joined, set(0, 3), joined, ret(0)), nil, 99, 3, api.OK)
	twice := f(set(0, 5), set(1, 1), fork(0, 1, 1), set(1, 2), fork(0, 1, 1), set(1, 3), fork(2, 1, 1), joined, op(api.OpAdd, 0, 0, 2), ret(0))
	want(t, "values in a row", twice, nil, 999, 5, api.OK)
}

// TestJoinFailed: the first child that failed fails the task at the join, and not ahead of it.
func TestJoinFailed(t *testing.T) {
	deep := fun(0, 1, fork(0, 0, 4), ret(0))
	f := func(ops ...api.Op) api.Program { return prog(fun(0, 4, ops...), echo, fail, dull, deep) }
	zero, fuel, far := fork(0, 0, 2), fork(0, 0, 3), fork(0, 0, 4)
	good := fork(1, 0, 1)
	for _, x := range []struct {
		ops []api.Op
		err api.Errno
	}{
		{[]api.Op{zero}, api.ErrZero},
		{[]api.Op{fuel}, api.ErrFuel},
		{[]api.Op{far}, api.ErrDeep},
		{[]api.Op{good, zero, fuel}, api.ErrZero},
		{[]api.Op{good, fuel, zero}, api.ErrFuel},
		{[]api.Op{far, zero, good, fuel}, api.ErrDeep},
		{[]api.Op{good, good, good, good, good, zero, far}, api.ErrZero},
		{[]api.Op{good, joined, zero, fuel}, api.ErrZero},
	} {
		kids := 0
		for _, o := range x.ops {
			if o.Do == api.OpFork {
				kids++
			}
		}
		l := want(t, "at the return", f(append(slices.Clone(x.ops), ret(0))...), nil, 65536, 0, x.err)
		if l[0].Kids != kids {
			t.Errorf("%v: %d children", x.ops, l[0].Kids)
		}
		want(t, "at the join", f(append(slices.Clone(x.ops), joined, on(0))...), nil, 65536, 0, x.err)
		want(t, "never", f(append(slices.Clone(x.ops), op(api.OpMod, 0, 0, 3), ret(0))...), nil, 65536, 0, api.ErrZero)
		want(t, "in a loop", f(append(slices.Clone(x.ops), on(int64(len(x.ops))))...), nil, 65536, 0, api.ErrFuel)
	}
}

// TestReturnUnpaid: a return that can't be paid joins nothing.
func TestReturnUnpaid(t *testing.T) {
	p := prog(fun(0, 1, fork(0, 0, 1), ret(0)), fail)
	want(t, "unpaid", p, nil, 1, 0, api.ErrFuel)
	l := want(t, "paid, of a child without fuel", p, nil, 2, 0, api.ErrFuel)
	if len(l) != 2 || l[1].Result.Err != api.ErrFuel || l[1].Task.Fuel != 0 {
		t.Errorf("%v", l)
	}
	want(t, "paid, of a child with fuel", p, nil, 3, 0, api.ErrZero)
}

// TestFailed: children of a task that fails go on for themselves, and come to something.
func TestFailed(t *testing.T) {
	p := prog(fun(0, 2, set(0, 6), fork(1, 0, 1), op(api.OpDiv, 0, 0, 1), ret(0)), fun(1, 2, fork(1, 0, 2), ret(1)), echo)
	l := want(t, "a task that fails", p, nil, 99, 0, api.ErrZero)
	if len(l) != 3 || l[1].Result != (api.Result{Value: 6}) || l[2].Result != (api.Result{Value: 6}) || l[0].Kids != 1 || l[1].Kids != 1 {
		t.Errorf("a task that fails: %v", l)
	}
	q := prog(fun(0, 2, set(0, 6), fork(1, 0, 2), fork(0, 0, 1), fork(1, 0, 2), ret(1)), fail, echo)
	l = want(t, "behind a child that fails", q, nil, 99, 0, api.ErrZero)
	if len(l) != 4 || l[1].Result.Value != 6 || l[2].Result.Err != api.ErrZero || l[3].Result.Value != 6 || l[0].Kids != 3 {
		t.Errorf("behind a child that fails: %v", l)
	}
}

// TestKids: at most MaxKids children; one fork more fails, once it is paid for.
func TestKids(t *testing.T) {
	for n := range 20 {
		p := prog(fun(0, 1, append(slices.Repeat([]api.Op{fork(0, 0, 1)}, n), ret(0))...), fun(0, 1, on(0)))
		for _, fuel := range []int{65534, 65535, 65536} {
			kids, left := 0, fuel
			for kids < n && kids < 16 && left > 0 {
				kids++
				left = left - 1 - (left-1)/2
			}
			l := hold(t, p, nil, fuel)
			if len(l) != kids+1 || l[0].Kids != kids {
				t.Errorf("%d forks, fuel %d: %d tasks", n, fuel, len(l))
			}
			if n > 16 && fuel == 65536 && l[0].Result.Err != api.ErrKids || n > 16 && fuel < 65536 && l[0].Result.Err != api.ErrFuel {
				t.Errorf("%d forks, fuel %d: %v", n, fuel, l[0])
			}
			if n == 16 && l[16].Task.Path != "\x10" {
				t.Errorf("16 forks: %v", l)
			}
		}
	}
	joins := prog(fun(0, 1, fork(0, 0, 1), joined, on(0)), fun(0, 1, set(0, 1), ret(0)))
	l := want(t, "joined children count", joins, nil, 65536, 0, api.ErrFuel)
	if l[0].Kids < 10 {
		t.Errorf("joined children: %v", l[0])
	}
}

// TestDeep: a child's path has at most MaxDeep bytes; a fork beyond it fails, once it is paid for.
func TestDeep(t *testing.T) {
	self := prog(fun(1, 4, set(1, 1), op(api.OpSub, 2, 0, 1), when(0, 5), set(3, 77), ret(3), fork(3, 2, 0), ret(3)))
	for n := range 15 {
		value, err := int64(77), api.OK
		if n > 12 {
			value, err = 0, api.ErrDeep
		}
		l := want(t, "generations", self, []int64{int64(n)}, 65536, value, err)
		if len(l) != min(n, 12)+1 {
			t.Errorf("%d generations: %d tasks", n, len(l))
		}
		if last := l[len(l)-1]; last.Task.Path != strings.Repeat("\x01", min(n, 12)) || last.Kids != 0 {
			t.Errorf("%d generations: %v", n, last)
		}
	}
	endless := prog(fun(0, 1, fork(0, 0, 0), ret(0)))
	want(t, "the last fork is not paid for", endless, nil, 8190, 0, api.ErrFuel)
	want(t, "the last fork is paid for", endless, nil, 8191, 0, api.ErrDeep)
}

// paths is where tasks stand.
func paths(l []api.Done) (s []string) {
	for _, d := range l {
		s = append(s, d.Task.Path)
	}
	return s
}

// TestTree (P13.3): all tasks, those first that come ahead.
func TestTree(t *testing.T) {
	p := prog(
		fun(0, 2, fork(0, 0, 1), fork(0, 0, 2), fork(0, 0, 1), ret(0)),
		fun(0, 1, fork(0, 0, 2), fork(0, 0, 2), ret(0)),
		fun(0, 1, set(0, 3), ret(0)),
	)
	l := hold(t, p, nil, 65536)
	if w := []string{"", "\x01", "\x01\x01", "\x01\x02", "\x02", "\x03", "\x03\x01", "\x03\x02"}; !slices.Equal(paths(l), w) {
		t.Errorf("%q, want %q", paths(l), w)
	}
	for _, d := range l {
		kids := []int{3, 2, 0}[d.Task.Func]
		if d.Kids != kids || d.Result != (api.Result{Value: 3}) {
			t.Errorf("%v", d)
		}
	}
	all := hold(t, fib(), []int64{9}, 65536)
	if s := branch.Sort(paths(all)); len(all) != 109 || !slices.Equal(s, paths(all)) {
		t.Errorf("fib: %d tasks, %q", len(all), paths(all))
	}
}

// TestMost (P13.3): more than most tasks are told, and nothing else.
func TestMost(t *testing.T) {
	p := fib()
	w := plainTree(p, []int64{6}, 65536)
	if len(w) != 25 {
		t.Fatalf("%d tasks", len(w))
	}
	for most := -30; most < 60; most++ {
		holdTree(t, p, []int64{6}, 65536, most, w)
	}
	alone := prog(fun(0, 1, ret(0)))
	for _, x := range []struct {
		fuel, most int
		e          api.Errno
	}{
		{0, 0, api.ErrTasks}, {0, 1, api.OK}, {0, -1, api.ErrTasks}, {9, 0, api.ErrTasks}, {9, 1, api.OK}, {9, math.MinInt, api.ErrTasks}, {9, math.MaxInt, api.OK}, {-1, 0, api.ErrArg},
	} {
		if l, e := Tree(alone, nil, x.fuel, x.most); e != x.e || (e == api.OK) != (len(l) == 1) {
			t.Errorf("fuel %d, most %d: %v, %v", x.fuel, x.most, l, e)
		}
	}
}

// TestBound (P13.4): at most fuel + 1 tasks, and each child has half of what was left.
func TestBound(t *testing.T) {
	ops := append(slices.Repeat([]api.Op{fork(0, 0, 0)}, 16), ret(0))
	p := prog(fun(0, 1, ops...))
	greatest := 0
	for fuel := 0; fuel <= 65536; fuel += 1 + fuel*3/2 {
		l := hold(t, p, nil, fuel)
		if len(l) > fuel+1 {
			t.Errorf("fuel %d: %d tasks", fuel, len(l))
		}
		greatest = max(greatest, len(l))
	}
	if greatest < 10000 {
		t.Errorf("%d tasks at most", greatest)
	}
	if l, e := Tree(p, nil, 65536, 65537); e != api.OK || len(l) < greatest {
		t.Errorf("MaxFuel: %d tasks, %v", len(l), e)
	}
	for _, fuel := range []int{0, 1, 2, 3, 4, 5, 6, 7, 8, 9} {
		if l := hold(t, p, nil, fuel); len(l) != fuel+1 {
			t.Errorf("fuel %d: %d tasks", fuel, len(l))
		}
	}
}

// from is a program that begins with another one of its functions, and has all of them behind it.
func from(p api.Program, fn int) api.Program {
	q := api.Program{Funcs: []api.Func{p.Funcs[fn]}}
	q.Funcs = append(q.Funcs, p.Funcs...)
	q = code.Copy(q)
	for _, f := range q.Funcs {
		for i := range f.Ops {
			if f.Ops[i].Do == api.OpFork {
				f.Ops[i].N++
			}
		}
	}
	return q
}

// holdParts holds each task's part of a tree against the tree of a program that begins with it; parts that come to the last generation are left out, since there they fail where the other tree goes on. It answers how many were held.
func holdParts(t *testing.T, p api.Program, l []api.Done) int {
	t.Helper()
	held := 0
	for i, d := range l {
		part := l[i : i+1]
		for len(part) < len(l)-i && branch.Under(l[i+len(part)].Task.Path, d.Task.Path) {
			part = l[i : i+len(part)+1]
		}
		if slices.ContainsFunc(part, func(d api.Done) bool { return len(d.Task.Path) == api.MaxDeep }) {
			continue
		}
		own, e := Tree(from(p, d.Task.Func), d.Task.Args, d.Task.Fuel, len(part))
		if e != api.OK || len(own) != len(part) {
			t.Fatalf("%v, from %v on: %d tasks, %v, want %d", p, d.Task, len(own), e, len(part))
		}
		for k, x := range own {
			if k > 0 {
				x.Task.Func--
			} else {
				x.Task.Func = d.Task.Func
			}
			x.Task.Path = d.Task.Path + x.Task.Path
			if !sameDone(x, part[k]) {
				t.Fatalf("%v, from %v on: %v, want %v", p, d.Task, x, part[k])
			}
		}
		held++
	}
	return held
}

// TestParts (P13.4): what a task comes to hangs on what it is begun as alone.
func TestParts(t *testing.T) {
	if n := holdParts(t, fib(), hold(t, fib(), []int64{8}, 65536)); n < 60 {
		t.Errorf("%d parts", n)
	}
	p := prog(fun(1, 2, fork(1, 0, 1), fork(0, 0, 2), joined, ret(1)), fun(1, 2, fork(1, 0, 2), op(api.OpMul, 0, 0, 0), fork(0, 0, 2), ret(1)), fun(1, 1, op(api.OpAdd, 0, 0, 0), fork(0, 0, 3), ret(0)), echo)
	for fuel := range 120 {
		holdParts(t, p, hold(t, p, []int64{3}, fuel))
	}
}

// span is where elements stand: from one byte to the one behind the last one's.
func span(l []int64) (from, to uintptr) {
	from = uintptr(unsafe.Pointer(unsafe.SliceData(l)))
	return from, from + uintptr(cap(l))*8
}

// shared tells whether two lists stand in the same memory; nil stands nowhere.
func shared(a, b []int64) bool {
	if a == nil || b == nil {
		return false
	}
	af, at := span(a)
	bf, bt := span(b)
	return af == bf && af < max(at, bt) || af < bt && bf < at
}

// TestNewMemory (R5): each list of an answer is its own.
func TestNewMemory(t *testing.T) {
	input := []int64{8}
	r, _ := Root(fib(), input, 65536)
	l, _ := Tree(fib(), input, 65536, 999)
	again, _ := Tree(fib(), input, 65536, 999)
	lists := [][]int64{input, r.Args}
	for i := range l {
		lists = append(lists, l[i].Task.Args, again[i].Task.Args)
	}
	for i, a := range lists {
		for _, b := range lists[:i] {
			if shared(a, b) {
				t.Fatalf("list %d is shared", i)
			}
		}
	}
	some := make([]int64, 3)
	p := prog(fun(0, 16, fork(0, 5, 0), fork(0, 9, 1), ret(0)), fun(0, 0, joined, on(0)))
	none, _ := Tree(p, some[1:1], 9, 99)
	for i, d := range none {
		if shared(d.Task.Args, some) {
			t.Errorf("task %d of none shares its input's memory", i)
		}
	}
	r, _ = Root(p, some[:0], 9)
	_ = append(r.Args, 5)
	l[0] = api.Done{}
	clear(l[3].Task.Args)
	if some[0] != 0 || again[0].Result.Value != 21 || again[3].Task.Args[0] == 0 || input[0] != 8 {
		t.Errorf("%v, %v, %v", some, again[0], again[3])
	}
}

// drawnFork is a fork of a function with so many registers; mostly of one that stands behind it, so that not all fuel goes into forks.
func drawnFork(r *rand.Rand, heads []api.Func, own, regs int) api.Op {
	fn := r.Intn(len(heads))
	if fn <= own && r.Intn(5) > 0 {
		fn = len(heads) - 1
	}
	n := heads[fn].Args
	switch {
	case n > regs || fn <= own && r.Intn(3) > 0:
		return joined
	case n == 0:
		return fork(r.Intn(regs), r.Intn(17), int64(fn))
	}
	return fork(r.Intn(regs), r.Intn(regs-n+1), int64(fn))
}

// drawnOp is an op that may stand at the place at of a function with so many registers and ops.
func drawnOp(r *rand.Rand, heads []api.Func, own, at, ops int) api.Op {
	regs := heads[own].Regs
	reg := func() int { return r.Intn(regs) }
	goes := func() int64 {
		if at+1 < ops && r.Intn(6) > 0 {
			return int64(at + 1 + r.Intn(ops-at-1))
		}
		return int64(r.Intn(ops))
	}
	if at == ops-1 {
		if r.Intn(8) == 0 {
			return on(int64(r.Intn(ops)))
		}
		return ret(reg())
	}
	switch r.Intn(12) {
	case 0, 1, 2, 3:
		return set(reg(), edges[r.Intn(len(edges))])
	case 4:
		return op(api.OpCopy, reg(), reg(), 0)
	case 5:
		return joined
	case 6:
		return when(reg(), goes())
	case 7, 8, 9:
		return drawnFork(r, heads, own, regs)
	}
	do := api.OpAdd + uint8(r.Intn(7))
	return op(do, reg(), reg(), reg())
}

// drawn is a program that can be run, and an input.
func drawn(r *rand.Rand) (p api.Program, input []int64) {
	for range 1 + r.Intn(4) {
		regs := 1 + r.Intn(6)
		p.Funcs = append(p.Funcs, fun(r.Intn(min(regs, 3)+1), regs))
	}
	for i := range p.Funcs {
		f := &p.Funcs[i]
		n := 1 + r.Intn(14)
		for at := range n {
			f.Ops = append(f.Ops, drawnOp(r, p.Funcs, i, at, n))
		}
	}
	for range p.Funcs[0].Args {
		input = append(input, edges[r.Intn(len(edges))])
	}
	return p, input
}

// TestDrawn (P13.1 to P13.4, R6): drawn programs, each twice.
func TestDrawn(t *testing.T) {
	r := rand.New(rand.NewSource(13))
	came := map[api.Errno]int{}
	parents, parts := 0, 0
	for range 12000 {
		p, input := drawn(r)
		fuel := r.Intn([]int{40, 600, 5000}[r.Intn(3)])
		if r.Intn(100) == 0 {
			fuel = 65536
		}
		if e := check.Input(p, input); e != api.OK {
			t.Fatalf("%v: %v", p, e)
		}
		l := hold(t, p, input, fuel)
		if len(l) > fuel+1 {
			t.Fatalf("%v, fuel %d: %d tasks", p, fuel, len(l))
		}
		for _, d := range l {
			came[d.Result.Err]++
			if d.Kids > 0 && d.Result.Value != 0 {
				parents++
			}
		}
		if len(l) < 300 {
			hold(t, p, input, fuel)
			parts += holdParts(t, p, l)
		}
	}
	if came[api.OK] < 8000 || came[api.ErrFuel] < 20000 || came[api.ErrZero] < 3000 || came[api.ErrDeep] < 200 || parents < 500 || parts < 40000 {
		t.Errorf("tasks came to %v; %d of them with children to values; %d parts", came, parents, parts)
	}
}

// FuzzEval looks for programs that come to something wrong.
func FuzzEval(f *testing.F) {
	for _, p := range []api.Program{fib(), power(), prog(fun(0, 1, fork(0, 16, 0), joined, ret(0))), prog(fun(0, 1, op(api.OpMod, 0, 0, 0), ret(0)))} {
		s, _ := code.Encode(p)
		f.Add(s, int64(5), int64(-3), 500)
	}
	f.Fuzz(func(t *testing.T, s string, a, b int64, fuel int) {
		p, e := code.Decode(s)
		if e != api.OK {
			return
		}
		if fuel > 3000 && fuel <= api.MaxFuel {
			fuel %= 3000
		}
		for _, input := range [][]int64{nil, {a}, {a, b}} {
			hold(t, p, input, fuel)
		}
	})
}

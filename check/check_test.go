package check

import (
	"errors"
	"math"
	"math/rand"
	"slices"
	"testing"
	"unsafe"

	"thresher/api"
	"thresher/code"
)

// told is what May tells of a program.
type told struct {
	e      api.Errno
	fn, op int
}

var fine = told{}

func tell(p api.Program) told {
	e, fn, op := May(p)
	return told{e, fn, op}
}

// plainForm tells whether a program has its form, by the words of the chapter on code.
func plainForm(p api.Program) bool {
	form := len(p.Funcs) <= 16
	for _, f := range p.Funcs {
		form = form && f.Args >= 0 && f.Args <= 16 && f.Regs >= 0 && f.Regs <= 16 && len(f.Ops) <= 64
		for _, o := range f.Ops {
			k := o.Do
			d, a, b, n := k >= 1 && k <= 9 || k == 12, k >= 2 && k <= 9 || k == 11 || k == 12 || k == 14, k >= 3 && k <= 9, k == 1 || k >= 10 && k <= 12
			form = form && k >= 1 && k <= 14 && (o.N == 0 || n)
			form = form && (o.D == 0 || d && o.D > 0 && o.D <= 16) && (o.A == 0 || a && o.A > 0 && o.A <= 16) && (o.B == 0 || b && o.B > 0 && o.B <= 16)
		}
	}
	return form
}

// plainMay goes by the chapter's words, one by one: the first fault that is found is told, and no other one is looked for.
func plainMay(p api.Program) told {
	if !plainForm(p) {
		return told{api.ErrForm, 0, 0}
	}
	if len(p.Funcs) == 0 {
		return told{api.ErrFuncs, 0, 0}
	}
	for i, f := range p.Funcs {
		if f.Args > f.Regs {
			return told{api.ErrFuncs, i, 0}
		}
		for j, o := range f.Ops {
			k := o.Do
			if (k >= 1 && k <= 9 || k == 12) && o.D >= f.Regs || (k >= 2 && k <= 9 || k == 11 || k == 14) && o.A >= f.Regs || k >= 3 && k <= 9 && o.B >= f.Regs {
				return told{api.ErrReg, i, j}
			}
			if (k == 10 || k == 11) && (o.N < 0 || o.N >= int64(len(f.Ops))) || k == 12 && (o.N < 0 || o.N >= int64(len(p.Funcs))) {
				return told{api.ErrTarget, i, j}
			}
			if k == 12 {
				if n := p.Funcs[o.N].Args; n > 0 && o.A+n > f.Regs {
					return told{api.ErrReg, i, j}
				}
			}
		}
		n := len(f.Ops)
		if n == 0 {
			return told{api.ErrEnds, i, 0}
		}
		if k := f.Ops[n-1].Do; k != 10 && k != 14 {
			return told{api.ErrEnds, i, n - 1}
		}
	}
	return fine
}

// plainReaches is what a function reaches: what it begins, and what is reached from there in as many rounds as there are functions.
func plainReaches(p api.Program, fn int) (l []int) {
	n := len(p.Funcs)
	if plainMay(p) != fine || fn < 0 || fn >= n {
		return nil
	}
	var way [16][16]bool
	for i, f := range p.Funcs {
		for _, o := range f.Ops {
			if o.Do == 12 {
				way[i][o.N] = true
			}
		}
	}
	for k := range n {
		for i := range n {
			for j := range n {
				way[i][j] = way[i][j] || way[i][k] && way[k][j]
			}
		}
	}
	for j := range n {
		if way[fn][j] {
			l = append(l, j)
		}
	}
	return l
}

func plainInput(p api.Program, input []int64) api.Errno {
	if x := plainMay(p); x != fine {
		return x.e
	}
	if len(input) != p.Funcs[0].Args {
		return 114
	}
	return api.OK
}

// deep is a program in other memory, made item by item.
func deep(p api.Program) (c api.Program) {
	for _, f := range p.Funcs {
		g := api.Func{Args: f.Args, Regs: f.Regs}
		for _, o := range f.Ops {
			g.Ops = append(g.Ops, o)
		}
		c.Funcs = append(c.Funcs, g)
	}
	return c
}

// hold holds all that is told of a program against what the chapter says of it.
func hold(t *testing.T, p api.Program) {
	t.Helper()
	was := deep(p)
	if x, w := tell(p), plainMay(p); x != w {
		t.Fatalf("May(%v): %v, want %v", p, x, w)
	}
	for n := range 18 {
		input := make([]int64, n)
		if e, w := Input(p, input), plainInput(p, input); e != w {
			t.Fatalf("Input(%v, %d numbers): %v, want %v", p, n, e, w)
		}
	}
	for fn := -2; fn < len(p.Funcs)+2 && fn < 20; fn++ {
		if l, w := Reaches(p, fn), plainReaches(p, fn); !slices.Equal(l, w) {
			t.Fatalf("Reaches(%v, %d): %v, want %v", p, fn, l, w)
		}
	}
	if !code.Same(p, was) {
		t.Fatalf("%v was changed: it is %v", was, p)
	}
}

// want holds what is told of a program against what is wanted by hand, and against the chapter's words.
func want(t *testing.T, what string, p api.Program, wanted told) {
	t.Helper()
	if x := tell(p); x != wanted {
		t.Errorf("%s: %v, want %v", what, x, wanted)
	}
	hold(t, p)
}

func ret(a int) api.Op               { return api.Op{Do: api.OpReturn, A: a} }
func on(n int64) api.Op              { return api.Op{Do: api.OpGo, N: n} }
func when(a int, n int64) api.Op     { return api.Op{Do: api.OpIf, A: a, N: n} }
func fork(d, a int, fn int64) api.Op { return api.Op{Do: api.OpFork, D: d, A: a, N: fn} }

var joined = api.Op{Do: api.OpJoin}

// fun is a function of so many arguments and registers.
func fun(args, regs int, l ...api.Op) api.Func { return api.Func{Args: args, Regs: regs, Ops: l} }

func prog(l ...api.Func) api.Program { return api.Program{Funcs: l} }

// TestErrors: the errors and limits that the chapter names are what this package's tests go by.
func TestErrors(t *testing.T) {
	if api.ErrFuncs != 110 || api.ErrReg != 111 || api.ErrTarget != 112 || api.ErrEnds != 113 || api.ErrInput != 114 || api.ErrForm != 8 {
		t.Error(api.ErrFuncs, api.ErrReg, api.ErrTarget, api.ErrEnds, api.ErrInput, api.ErrForm)
	}
	if api.MaxFuncs != 16 || api.MaxOps != 64 || api.MaxRegs != 16 {
		t.Error(api.MaxFuncs, api.MaxOps, api.MaxRegs)
	}
}

// TestExamples: the chapter's examples.
func TestExamples(t *testing.T) {
	want(t, "OpReturn 0", prog(fun(1, 1, ret(0))), fine)
	want(t, "OpReturn 1", prog(fun(1, 1, ret(1))), told{api.ErrReg, 0, 0})
	want(t, "OpGo 1", prog(fun(1, 1, on(1))), told{api.ErrTarget, 0, 0})
	want(t, "no ops", prog(fun(1, 1)), told{api.ErrEnds, 0, 0})
	want(t, "no functions", prog(), told{api.ErrFuncs, 0, 0})
}

// TestForm (P11.1): a program that has not its form is told ahead of all else, by no place.
func TestForm(t *testing.T) {
	good := fun(1, 1, ret(0))
	bad := fun(2, 1)
	for i, p := range []api.Program{
		prog(good, fun(-1, 0, ret(0))),
		prog(good, fun(0, 17, ret(0))),
		prog(good, fun(17, 16, ret(0))),
		prog(bad, good, fun(1, 1, api.Op{})),
		prog(bad, good, fun(1, 1, ret(0), api.Op{Do: 15}, ret(0))),
		prog(good, fun(1, 1, ret(17))),
		prog(good, fun(1, 1, ret(-1))),
		prog(good, fun(1, 1, ret(math.MinInt))),
		prog(good, fun(1, 1, api.Op{Do: api.OpReturn, D: 1})),
		prog(good, fun(1, 1, api.Op{Do: api.OpJoin, N: 1}, ret(0))),
		prog(good, fun(1, 1, slices.Repeat([]api.Op{ret(0)}, 65)...)),
		prog(slices.Repeat([]api.Func{good}, 17)...),
		prog(make([]api.Func, 17)...),
	} {
		want(t, "program "+string(rune('a'+i)), p, told{api.ErrForm, 0, 0})
	}
	want(t, "16 functions", prog(slices.Repeat([]api.Func{good}, 16)...), fine)
	want(t, "64 ops", prog(good, fun(1, 1, slices.Repeat([]api.Op{ret(0)}, 64)...)), fine)
}

// TestArgs (P11.1): a function's arguments are to be in its registers; that is told ahead of its ops, and behind those of the functions ahead of it.
func TestArgs(t *testing.T) {
	for args := range 17 {
		for regs := range 17 {
			f := fun(args, regs, on(0))
			w := fine
			if args > regs {
				w.e = api.ErrFuncs
			}
			want(t, "the first function", prog(f, f), w)
			if args > regs {
				w.fn = 2
			}
			want(t, "the third function", prog(fun(0, 0, on(0)), fun(0, 0, on(0)), f, f), w)
			f.Ops = []api.Op{joined, ret(16)}
			if args > regs {
				want(t, "ahead of an op", prog(fun(0, 0, on(0)), fun(0, 0, on(0)), f), w)
			}
		}
	}
}

// TestRegisters (P11.1): of each kind, just the registers that it has are to be below Regs.
func TestRegisters(t *testing.T) {
	for k := uint8(1); k <= 14; k++ {
		for regs := range 17 {
			last := prog(fun(0, 0, on(0)), fun(0, regs, on(0), api.Op{Do: k}, on(0)))
			op := &last.Funcs[1].Ops[1]
			for _, part := range []*int{&op.D, &op.A, &op.B} {
				for r := range 17 {
					*part = r
					hold(t, last)
				}
				*part = 0
			}
		}
	}
	none := func(k uint8) told { return tell(prog(fun(0, 0, api.Op{Do: k}, on(0)))) }
	for k := uint8(1); k <= 14; k++ {
		w := told{api.ErrReg, 0, 0}
		if k == api.OpGo || k == api.OpJoin {
			w = fine
		}
		if x := none(k); x != w {
			t.Errorf("kind %d without registers: %v, want %v", k, x, w)
		}
	}
}

// TestEachRegister (P11.1): one register that is not there, whichever it is, by hand.
func TestEachRegister(t *testing.T) {
	bad := map[uint8][]api.Op{
		api.OpSet:    {{D: 3}},
		api.OpCopy:   {{D: 3}, {A: 3}},
		api.OpIf:     {{A: 3}},
		api.OpFork:   {{D: 3}},
		api.OpReturn: {{A: 3}},
	}
	for k := api.OpAdd; k <= api.OpSame; k++ {
		bad[k] = []api.Op{{D: 3}, {A: 3}, {B: 3}}
	}
	for k, l := range bad {
		for _, o := range l {
			o.Do = k
			want(t, "a register", prog(fun(0, 3, joined, o, ret(0))), told{api.ErrReg, 0, 1})
			o.D, o.A, o.B = o.D*2/3, o.A*2/3, o.B*2/3
			want(t, "the last register", prog(fun(0, 3, joined, o, ret(0))), fine)
		}
	}
	want(t, "where a fork's arguments begin", prog(fun(0, 3, fork(2, 16, 0), ret(0))), fine)
}

// TestSetNumber (P11.1): a number that is no target may be any.
func TestSetNumber(t *testing.T) {
	for _, n := range []int64{math.MinInt64, -1, 0, 1, 64, math.MaxInt64} {
		want(t, "a number", prog(fun(0, 1, api.Op{Do: api.OpSet, N: n}, ret(0))), fine)
	}
}

// TestTarget (P11.1): OpGo and OpIf go on at an op of their own function, OpFork begins one of the program's.
func TestTarget(t *testing.T) {
	for _, n := range []int64{math.MinInt64, -1 << 32, -64, -1, 0, 1, 2, 3, 4, 15, 16, 63, 64, 1 << 32, 1<<32 + 1, 1 << 62, math.MaxInt64} {
		for _, o := range []api.Op{on(n), when(0, n)} {
			w := told{api.ErrTarget, 1, 1}
			if n >= 0 && n < 3 {
				w = fine
			}
			other := fun(0, 1, ret(0), ret(0), ret(0), ret(0), ret(0))
			want(t, "an op", prog(other, fun(0, 1, ret(0), o, ret(0)), other, other), w)
		}
		w := told{api.ErrTarget, 1, 0}
		if n >= 0 && n < 4 {
			w = fine
		}
		f := fun(0, 1, ret(0))
		want(t, "a function", prog(f, fun(0, 1, fork(0, 0, n), ret(0)), f, f), w)
	}
	for n := range 64 {
		ops := slices.Repeat([]api.Op{ret(0)}, n+1)
		ops[0] = when(0, int64(n))
		if n > 0 {
			want(t, "the last op", prog(fun(0, 1, ops...)), fine)
		}
		ops[n] = on(int64(n))
		want(t, "the op itself", prog(fun(0, 1, ops...)), fine)
		ops[n] = on(int64(n + 1))
		want(t, "behind the last op", prog(fun(0, 1, ops...)), told{api.ErrTarget, 0, n})
	}
}

// TestForkArguments (P11.1): as many registers from A on as the begun function has arguments are to be there; none, if it has none.
func TestForkArguments(t *testing.T) {
	for args := range 17 {
		for regs := 1; regs <= 16; regs++ {
			for a := range 17 {
				w := told{api.ErrReg, 0, 1}
				if args == 0 || a+args <= regs {
					w = fine
				}
				begun := fun(args, 16, ret(0))
				want(t, "arguments", prog(fun(0, regs, joined, fork(regs-1, a, 1), ret(0)), begun), w)
			}
		}
	}
	want(t, "its own arguments", prog(fun(2, 3, fork(0, 1, 0), ret(0))), fine)
	want(t, "its own arguments, from too far", prog(fun(2, 3, fork(0, 2, 0), ret(0))), told{api.ErrReg, 0, 0})
	want(t, "more than a function has registers", prog(fun(0, 3, fork(0, 0, 1), ret(0)), fun(3, 2, ret(0))), told{api.ErrFuncs, 1, 0})
}

// TestEnds (P11.1): the last op of each function is OpGo or OpReturn, whatever stands ahead of it.
func TestEnds(t *testing.T) {
	for k := uint8(1); k <= 14; k++ {
		for n := range 64 {
			ops := slices.Repeat([]api.Op{ret(0)}, n+1)
			ops[n] = api.Op{Do: k}
			w := told{api.ErrEnds, 1, n}
			if k == api.OpGo || k == api.OpReturn {
				w = fine
			}
			good := fun(0, 1, ret(0))
			want(t, "the last op", prog(good, fun(0, 1, ops...), good), w)
		}
	}
	good := fun(0, 1, on(0))
	want(t, "no ops", prog(good, good, fun(0, 1)), told{api.ErrEnds, 2, 0})
	want(t, "no ops, in a list", prog(good, api.Func{Ops: []api.Op{}}, good), told{api.ErrEnds, 1, 0})
}

// TestOrder (P11.1, R2): function by function, op by op, and what the promise names first.
func TestOrder(t *testing.T) {
	two := fun(2, 2, ret(0))
	for _, x := range []struct {
		what string
		p    api.Program
		w    told
	}{
		{"a register ahead of a target", prog(fun(0, 1, when(1, 9), ret(0))), told{api.ErrReg, 0, 0}},
		{"a fork's D ahead of its function", prog(fun(0, 1, fork(1, 0, 9), ret(0))), told{api.ErrReg, 0, 0}},
		{"a fork's function ahead of its arguments", prog(fun(0, 1, fork(0, 5, 2), ret(0)), two), told{api.ErrTarget, 0, 0}},
		{"a fork's arguments ahead of the next op", prog(fun(0, 1, fork(0, 0, 1), ret(9)), two), told{api.ErrReg, 0, 0}},
		{"a fork's arguments ahead of the next op's target", prog(fun(0, 1, joined, fork(0, 0, 1), on(9)), two), told{api.ErrReg, 0, 1}},
		{"a target ahead of the next op's register", prog(fun(0, 1, on(9), ret(9))), told{api.ErrTarget, 0, 0}},
		{"an op ahead of the end", prog(fun(0, 1, ret(0), on(9), joined)), told{api.ErrTarget, 0, 1}},
		{"the last op's register ahead of the end", prog(fun(0, 1, ret(0), when(1, 0))), told{api.ErrReg, 0, 1}},
		{"the last op's target ahead of the end", prog(fun(0, 1, ret(0), when(0, 2))), told{api.ErrTarget, 0, 1}},
		{"arguments ahead of no ops", prog(fun(1, 0)), told{api.ErrFuncs, 0, 0}},
		{"the first end ahead of the second function", prog(fun(0, 1, joined), fun(1, 0, ret(0))), told{api.ErrEnds, 0, 0}},
		{"the first function's last op ahead of the second one's first", prog(fun(0, 1, ret(0), ret(1)), fun(0, 1, on(7))), told{api.ErrReg, 0, 1}},
		{"two functions alike", prog(fun(0, 1, on(0)), fun(0, 1, ret(1)), fun(0, 1, ret(1))), told{api.ErrReg, 1, 0}},
		{"form ahead of no registers", prog(fun(1, 0), fun(0, 1, ret(0), api.Op{Do: 15})), told{api.ErrForm, 0, 0}},
	} {
		want(t, x.what, x.p, x.w)
	}
}

// TestInput (P11.2): May's error first, then as many numbers as the first function has arguments, whatever they are.
func TestInput(t *testing.T) {
	for args := range 17 {
		p := prog(fun(args, 16, ret(0)), fun(3, 3, ret(0)))
		for n := range 20 {
			w := api.ErrInput
			if n == args {
				w = api.OK
			}
			input := make([]int64, n)
			for i := range input {
				input[i] = math.MinInt64 + int64(i)
			}
			was := slices.Clone(input)
			if e := Input(p, input); e != w || !slices.Equal(input, was) {
				t.Errorf("%d arguments, %d numbers: %v, want %v; %v", args, n, e, w, input)
			}
		}
	}
	for _, x := range []struct {
		p api.Program
		e api.Errno
	}{
		{prog(), api.ErrFuncs},
		{prog(fun(0, 17)), api.ErrForm},
		{prog(fun(1, 0, ret(0))), api.ErrFuncs},
		{prog(fun(1, 1, ret(1))), api.ErrReg},
		{prog(fun(1, 1, on(1))), api.ErrTarget},
		{prog(fun(1, 1, ret(0)), fun(1, 1)), api.ErrEnds},
	} {
		for _, input := range [][]int64{nil, {}, {1}, {1, 2}} {
			if e := Input(x.p, input); e != x.e {
				t.Errorf("Input(%v, %v): %v, want %v", x.p, input, e, x.e)
			}
		}
	}
	none := prog(fun(0, 1, ret(0)))
	if Input(none, nil) != api.OK || Input(none, []int64{}) != api.OK || Input(none, make([]int64, 1<<16)) != api.ErrInput {
		t.Error("no arguments")
	}
}

// begins is a program in which each function begins these.
func begins(l ...[]int64) (p api.Program) {
	for _, kids := range l {
		f := fun(0, 1)
		for _, k := range kids {
			f.Ops = append(f.Ops, fork(0, 0, k))
		}
		f.Ops = append(f.Ops, ret(0))
		p.Funcs = append(p.Funcs, f)
	}
	return p
}

// TestReaches (P11.3): by hand.
func TestReaches(t *testing.T) {
	for i, x := range []struct {
		p    api.Program
		fn   int
		want []int
	}{
		{begins(nil), 0, nil},
		{begins([]int64{0}), 0, []int{0}},
		{begins([]int64{2}, nil, []int64{1}), 0, []int{1, 2}},
		{begins([]int64{2}, nil, []int64{1}), 1, nil},
		{begins([]int64{2}, nil, []int64{1}), 2, []int{1}},
		{begins([]int64{1}, []int64{2}, []int64{0}), 1, []int{0, 1, 2}},
		{begins([]int64{1}, []int64{2}, []int64{1}), 0, []int{1, 2}},
		{begins([]int64{3, 3, 1, 3}, nil, []int64{0}, nil), 0, []int{1, 3}},
		{begins([]int64{3, 3, 1, 3}, nil, []int64{0}, nil), 2, []int{0, 1, 3}},
		{begins([]int64{1}, nil, []int64{2}, []int64{3}), 0, []int{1}},
		{begins([]int64{1}, nil), 2, nil},
		{begins([]int64{1}, nil), -1, nil},
		{begins([]int64{1}, nil), math.MinInt, nil},
		{begins([]int64{1}, nil), math.MaxInt, nil},
		{begins([]int64{1}, nil), 1 << 32, nil},
		{begins([]int64{2}, nil), 0, nil},
		{prog(), 0, nil},
		{prog(fun(0, 1, ret(0), fork(0, 0, 0), ret(0))), 0, []int{0}},
		{prog(fun(0, 1, on(1), ret(0)), fun(0, 1, ret(0))), 0, nil},
		{prog(fun(0, 1, fork(0, 0, 1), ret(0)), fun(0, 1, ret(0)), fun(0, 1, joined)), 0, nil},
		{prog(fun(0, 1, fork(0, 0, 1), ret(0)), fun(0, 1, ret(0)), fun(0, 1, api.Op{})), 0, nil},
	} {
		if l := Reaches(x.p, x.fn); !slices.Equal(l, x.want) {
			t.Errorf("%d: %v, want %v", i, l, x.want)
		}
		hold(t, x.p)
	}
}

// TestReachesRow (P11.3): a row of all functions that may be, each of which begins the next one, up and down, and round.
func TestReachesRow(t *testing.T) {
	var up, down, round, all [][]int64
	for i := range int64(16) {
		up = append(up, []int64{min(i+1, 15)})
		down = append(down, []int64{max(i-1, 0)})
		round = append(round, []int64{(i + 5) % 16})
		all = append(all, []int64{15, 14, 13, 12, 11, 10, 9, 8, 7, 6, 5, 4, 3, 2, 1, 0})
	}
	for _, l := range [][][]int64{up, down, round, all} {
		p := begins(l...)
		hold(t, p)
	}
	if l := Reaches(begins(round...), 3); len(l) != 16 || !slices.IsSorted(l) {
		t.Errorf("round: %v", l)
	}
	if l := Reaches(begins(up...), 3); len(l) != 12 || l[0] != 4 {
		t.Errorf("up: %v", l)
	}
	if l := Reaches(begins(down...), 3); !slices.Equal(l, []int{0, 1, 2}) {
		t.Errorf("down: %v", l)
	}
}

// TestNewMemory (P11.3, R5): each answer has a list of its own.
func TestNewMemory(t *testing.T) {
	p := begins([]int64{0, 1, 2}, nil, nil)
	a, b := Reaches(p, 0), Reaches(p, 0)
	if unsafe.SliceData(a) == unsafe.SliceData(b) {
		t.Error("one list")
	}
	for i := range a {
		a[i] = 9
	}
	a = append(a, 9)
	if !slices.Equal(b, []int{0, 1, 2}) || !slices.Equal(Reaches(p, 0), b) || len(a) != 4 {
		t.Errorf("%v, %v", b, Reaches(p, 0))
	}
}

// TestNoLists (R4): lists that are nil, and those without elements, are the same.
func TestNoLists(t *testing.T) {
	if tell(api.Program{Funcs: []api.Func{}}) != tell(prog()) || tell(prog(fun(0, 0))) != tell(prog(api.Func{Ops: []api.Op{}})) {
		t.Error("another answer")
	}
	hold(t, api.Program{Funcs: []api.Func{}})
}

// TestFault: what is found is an error, told as its number is, and none beside a program that can be run.
func TestFault(t *testing.T) {
	err := wrong(prog(fun(0, 1, ret(0)), fun(0, 1, joined, on(2))))
	var f fault
	if !errors.As(err, &f) || f != (fault{api.ErrTarget, 1, 1}) || err.Error() != api.ErrTarget.Error() {
		t.Errorf("%v", err)
	}
	if err := wrong(prog(fun(0, 1, ret(0)))); err != nil {
		t.Errorf("%v", err)
	}
}

// twice is a program with its functions twice, one row behind the other; those of the second row begin each other, if own, else those of the first one.
func twice(p api.Program, own bool) api.Program {
	a, b := deep(p), deep(p)
	if own {
		for i := range b.Funcs {
			for j := range b.Funcs[i].Ops {
				if o := &b.Funcs[i].Ops[j]; o.Do == api.OpFork {
					o.N += int64(len(p.Funcs))
				}
			}
		}
	}
	return prog(append(a.Funcs, b.Funcs...)...)
}

// follows holds what the chapter says that follows against a program.
func follows(t *testing.T, p api.Program) {
	t.Helper()
	x := tell(p)
	if s, e := code.Encode(p); e == api.OK {
		q, _ := code.Decode(s)
		if y := tell(q); y != x {
			t.Fatalf("%v: %v, as bytes %v", p, x, y)
		}
		for fn := range p.Funcs {
			if !slices.Equal(Reaches(p, fn), Reaches(q, fn)) {
				t.Fatalf("%v: %v, as bytes %v", p, Reaches(p, fn), Reaches(q, fn))
			}
		}
	} else if x.e != api.ErrForm {
		t.Fatalf("%v has no bytes, and May tells %v", p, x)
	}
	if x != fine {
		return
	}
	for fn := range p.Funcs {
		l := Reaches(p, fn)
		for _, k := range l {
			for _, m := range Reaches(p, k) {
				if !slices.Contains(l, m) {
					t.Fatalf("%v: %d reaches %d, that reaches %d", p, fn, k, m)
				}
			}
		}
	}
	if len(p.Funcs) > 8 {
		return
	}
	for _, own := range []bool{false, true} {
		if y := tell(twice(p, own)); y != fine {
			t.Fatalf("%v: twice, %v", p, y)
		}
	}
	for fn := range p.Funcs {
		n, l := len(p.Funcs), Reaches(p, fn)
		again, behind := Reaches(twice(p, false), n+fn), Reaches(twice(p, true), n+fn)
		for i := range behind {
			behind[i] -= n
		}
		if !slices.Equal(Reaches(twice(p, false), fn), l) || !slices.Equal(again, l) || !slices.Equal(behind, l) {
			t.Fatalf("%v: %d reaches %v; twice, %v and %v", p, fn, l, again, behind)
		}
	}
}

// drawnOp is an op that is right in a function of n ops, of a program with these counts of arguments.
func drawnOp(r *rand.Rand, regs, n int, args []int) api.Op {
	o := api.Op{Do: uint8(1 + r.Intn(14))}
	k := o.Do
	switch {
	case k == api.OpJoin:
		return o
	case k == api.OpGo:
		return on(int64(r.Intn(n)))
	case k == api.OpIf:
		return when(r.Intn(regs), int64(r.Intn(n)))
	case k == api.OpReturn:
		return ret(r.Intn(regs))
	case k == api.OpFork:
		fn := r.Intn(len(args))
		if args[fn] > regs {
			return joined
		}
		return fork(r.Intn(regs), r.Intn(regs-args[fn]+1), int64(fn))
	}
	o.D = r.Intn(regs)
	if k == api.OpSet {
		o.N = int64(r.Uint64()) >> r.Intn(64)
	} else {
		o.A = r.Intn(regs)
	}
	if k >= api.OpAdd {
		o.B = r.Intn(regs)
	}
	return o
}

// drawn is a program that can be run.
func drawn(r *rand.Rand) (p api.Program) {
	args := make([]int, 1+r.Intn(8))
	if r.Intn(10) == 0 {
		args = make([]int, 16)
	}
	for i := range args {
		args[i] = r.Intn(1 + r.Intn(17))
	}
	for _, a := range args {
		f := fun(a, min(max(a, 1)+r.Intn(6), 16))
		n := 1 + r.Intn(8)
		for range n - 1 {
			f.Ops = append(f.Ops, drawnOp(r, f.Regs, n, args))
		}
		last := ret(r.Intn(f.Regs))
		if r.Intn(4) == 0 {
			last = on(int64(r.Intn(n)))
		}
		f.Ops = append(f.Ops, last)
		p.Funcs = append(p.Funcs, f)
	}
	return p
}

// spoil changes one thing of a program, by a little.
func spoil(r *rand.Rand, p api.Program) {
	f := &p.Funcs[r.Intn(len(p.Funcs))]
	by := []int{-1, 1, 1, 2, 8}[r.Intn(5)]
	switch r.Intn(9) {
	case 0:
		f.Args += by
	case 1, 2:
		f.Regs -= by
	case 3:
		f.Ops = f.Ops[:r.Intn(len(f.Ops)+1)]
	default:
		if len(f.Ops) == 0 {
			return
		}
		o := &f.Ops[r.Intn(len(f.Ops))]
		switch r.Intn(5) {
		case 0:
			o.Do = uint8(1 + r.Intn(14))
		case 1:
			o.D += by
		case 2:
			o.A += by
		case 3:
			o.B += by
		case 4:
			o.N += int64(by)
		}
	}
}

// TestDrawn (P11.1 to P11.4, R6): drawn programs that can be run, and what becomes of them as they are spoilt bit by bit, each twice.
func TestDrawn(t *testing.T) {
	r := rand.New(rand.NewSource(11))
	seen := map[api.Errno]int{}
	for range 1500 {
		p := drawn(r)
		if x := tell(p); x != fine {
			t.Fatalf("%v: %v", p, x)
		}
		for range 4 {
			hold(t, p)
			hold(t, p)
			follows(t, p)
			seen[tell(p).e]++
			spoil(r, p)
		}
	}
	for _, e := range []api.Errno{api.OK, api.ErrForm, api.ErrFuncs, api.ErrReg, api.ErrTarget, api.ErrEnds} {
		if seen[e] < 30 {
			t.Errorf("%v came up %d times", e, seen[e])
		}
	}
}

// FuzzCheck looks for programs of which something wrong is told.
func FuzzCheck(f *testing.F) {
	for _, p := range []api.Program{
		prog(),
		prog(fun(1, 1, ret(0))),
		prog(fun(2, 3, fork(0, 1, 0), joined, fork(1, 0, 1), when(2, 0), ret(0)), fun(3, 3, on(0))),
		begins([]int64{1, 2}, []int64{0}, nil),
	} {
		s, _ := code.Encode(p)
		f.Add(s)
	}
	f.Fuzz(func(t *testing.T, s string) {
		if p, e := code.Decode(s); e == api.OK {
			hold(t, p)
			follows(t, p)
		}
	})
}

package code

import (
	"math"
	"math/rand"
	"reflect"
	"slices"
	"strings"
	"testing"
	"unsafe"

	"thresher/api"
)

const (
	mostFuncs = 16
	mostOps   = 64
	mostRegs  = 16
	mostBytes = 1 << 14
)

// What the chapter says that ops have.
func plainD(k uint8) bool { return k >= 1 && k <= 9 || k == 12 }
func plainA(k uint8) bool { return k >= 2 && k <= 9 || k == 11 || k == 12 || k == 14 }
func plainB(k uint8) bool { return k >= 3 && k <= 9 }
func plainN(k uint8) bool { return k == 1 || k == 10 || k == 11 || k == 12 }

// plainReg tells whether a register may be this one, of an op that has it or has it not.
func plainReg(has bool, x int) bool { return x == 0 || has && x >= 1 && x <= 16 }

func plainOp(o api.Op) bool {
	k := o.Do
	return k >= 1 && k <= 14 && plainReg(plainD(k), o.D) && plainReg(plainA(k), o.A) && plainReg(plainB(k), o.B) && (plainN(k) || o.N == 0)
}

func plainMay(p api.Program) bool {
	may := len(p.Funcs) <= 16
	for _, f := range p.Funcs {
		may = may && f.Args >= 0 && f.Args <= 16 && f.Regs >= 0 && f.Regs <= 16 && len(f.Ops) <= 64
		for _, o := range f.Ops {
			may = may && plainOp(o)
		}
	}
	return may
}

// plainNumber has the bytes of a number: seven bits a byte, the lowest first, 128 more if another one stands behind it.
func plainNumber(x uint64) string {
	if x < 128 {
		return string([]byte{byte(x)})
	}
	return string([]byte{byte(x%128) + 128}) + plainNumber(x/128)
}

// plainWhole has the bytes of a whole number: 0, -1, 1, -2, .. stand as 0, 1, 2, 3, ..
func plainWhole(x int64) string {
	if x < 0 {
		return plainNumber(2*uint64(-(x+1)) + 1)
	}
	return plainNumber(2 * uint64(x))
}

func plainOpBytes(o api.Op) string {
	s := plainNumber(uint64(o.Do))
	if plainD(o.Do) {
		s += plainNumber(uint64(o.D))
	}
	if plainA(o.Do) {
		s += plainNumber(uint64(o.A))
	}
	if plainB(o.Do) {
		s += plainNumber(uint64(o.B))
	}
	if plainN(o.Do) {
		s += plainWhole(o.N)
	}
	return s
}

func plainBytes(p api.Program) string {
	s := "\x01" + plainNumber(uint64(len(p.Funcs)))
	for _, f := range p.Funcs {
		s += plainNumber(uint64(f.Args)) + plainNumber(uint64(f.Regs)) + plainNumber(uint64(len(f.Ops)))
		for _, o := range f.Ops {
			s += plainOpBytes(o)
		}
	}
	return s
}

func plainEncode(p api.Program) (string, api.Errno) {
	if !plainMay(p) {
		return "", api.ErrArg
	}
	s := plainBytes(p)
	if len(s) > mostBytes {
		return "", api.ErrLong
	}
	return s, api.OK
}

// plainRest is what is still to be read, and whether all ahead of it was right.
type plainRest struct {
	s  string
	ok bool
}

// number takes a number: bytes that plainNumber writes.
func (r *plainRest) number() uint64 {
	for n := 1; r.ok && n <= len(r.s) && n <= 10; n++ {
		var x uint64
		for i := n - 1; i >= 0; i-- {
			x = x*128 + uint64(r.s[i]%128)
		}
		if plainNumber(x) == r.s[:n] {
			r.s = r.s[n:]
			return x
		}
	}
	r.ok = false
	return 0
}

// below takes a number of at most most.
func (r *plainRest) below(most uint64) int {
	x := r.number()
	if x > most {
		r.ok = false
		return 0
	}
	return int(x)
}

func (r *plainRest) op() (o api.Op) {
	o.Do = uint8(r.below(14))
	if o.Do == 0 {
		r.ok = false
	}
	if plainD(o.Do) {
		o.D = r.below(16)
	}
	if plainA(o.Do) {
		o.A = r.below(16)
	}
	if plainB(o.Do) {
		o.B = r.below(16)
	}
	if plainN(o.Do) {
		x := r.number()
		o.N = int64(x / 2)
		if x%2 == 1 {
			o.N = -o.N - 1
		}
	}
	return o
}

func plainDecode(s string) (api.Program, api.Errno) {
	if len(s) > mostBytes {
		return api.Program{}, api.ErrLong
	}
	r := &plainRest{s, true}
	version := r.number()
	if !r.ok {
		return api.Program{}, api.ErrForm
	}
	if version != 1 {
		return api.Program{}, api.ErrVersion
	}
	var p api.Program
	for n := r.below(16); n > 0 && r.ok; n-- {
		f := api.Func{Args: r.below(16)}
		f.Regs = r.below(16)
		for k := r.below(64); k > 0 && r.ok; k-- {
			f.Ops = append(f.Ops, r.op())
		}
		p.Funcs = append(p.Funcs, f)
	}
	if !r.ok || r.s != "" {
		return api.Program{}, api.ErrForm
	}
	return p, api.OK
}

// plainSame tells whether two programs are the same, item by item.
func plainSame(a, b api.Program) bool {
	if len(a.Funcs) != len(b.Funcs) {
		return false
	}
	for i, f := range a.Funcs {
		g := b.Funcs[i]
		if f.Args != g.Args || f.Regs != g.Regs || len(f.Ops) != len(g.Ops) {
			return false
		}
		for j, o := range f.Ops {
			x := g.Ops[j]
			if o.Do != x.Do || o.D != x.D || o.A != x.A || o.B != x.B || o.N != x.N {
				return false
			}
		}
	}
	return true
}

// deep is a program in other memory, made item by item.
func deep(p api.Program) (c api.Program) {
	for _, f := range p.Funcs {
		g := api.Func{Args: f.Args, Regs: f.Regs}
		for _, o := range f.Ops {
			g.Ops = append(g.Ops, o)
		}
		c.Funcs = append(c.Funcs, g)
	}
	return c
}

// one is a program of a function that has these ops.
func one(l ...api.Op) api.Program {
	return api.Program{Funcs: []api.Func{{Args: 1, Regs: 2, Ops: l}}}
}

// want holds an error against what is wanted.
func want(t *testing.T, what string, e, wanted api.Errno) {
	t.Helper()
	if e != wanted {
		t.Errorf("%s: %v, want %v", what, e, wanted)
	}
}

// hold holds all that is told of a program against what the chapter says of it.
func hold(t *testing.T, p api.Program) {
	t.Helper()
	was := deep(p)
	if is := May(p); is != plainMay(p) {
		t.Fatalf("May(%v): %v", p, is)
	}
	s, e := Encode(p)
	if w, wantE := plainEncode(p); s != w || e != wantE {
		t.Fatalf("Encode(%v): %x, %v; want %x, %v", p, s, e, w, wantE)
	}
	if e == api.OK {
		if q, e := Decode(s); !plainSame(p, q) || e != api.OK {
			t.Fatalf("Decode(%x): %v, %v; want %v", s, q, e, p)
		}
	}
	c := Copy(p)
	if !plainSame(p, c) || !Same(p, c) || !Same(c, p) || !Same(p, p) {
		t.Fatalf("Copy(%v): %v; Same: %v, %v, %v", p, c, Same(p, c), Same(c, p), Same(p, p))
	}
	if !plainSame(p, was) {
		t.Fatalf("%v was changed: it is %v", was, p)
	}
}

// read holds what is read of these bytes against what the chapter says of them.
func read(t *testing.T, s string) api.Errno {
	t.Helper()
	p, e := Decode(s)
	w, wantE := plainDecode(s)
	if !plainSame(p, w) || e != wantE {
		t.Fatalf("Decode(%x): %v, %v; want %v, %v", s, p, e, w, wantE)
	}
	if e != api.OK {
		return e
	}
	if again, e := Encode(p); again != s || e != api.OK || !May(p) {
		t.Fatalf("%x is written as %x, %v", s, again, e)
	}
	return e
}

// greatest is the program of the most bytes.
func greatest() (p api.Program) {
	for range mostFuncs {
		f := api.Func{Args: mostRegs, Regs: mostRegs}
		for range mostOps {
			f.Ops = append(f.Ops, api.Op{Do: api.OpFork, D: mostRegs, A: mostRegs, N: math.MinInt64})
		}
		p.Funcs = append(p.Funcs, f)
	}
	return p
}

// each is a program that has ops of all kinds, with all that they have.
func each() api.Program {
	return api.Program{Funcs: []api.Func{
		{Args: 3, Regs: 16, Ops: []api.Op{
			{Do: api.OpSet, D: 1, N: 300}, {Do: api.OpCopy, D: 2, A: 3}, {Do: api.OpAdd, D: 4, A: 5, B: 6},
			{Do: api.OpSub, D: 7, A: 8, B: 9}, {Do: api.OpMul, D: 10, A: 11, B: 12}, {Do: api.OpDiv, D: 13, A: 14, B: 15},
			{Do: api.OpMod, D: 16, A: 15, B: 14}, {Do: api.OpLess, D: 1, A: 2, B: 3}, {Do: api.OpSame, D: 16, A: 16, B: 16},
		}},
		{},
		{Args: 16, Regs: 2, Ops: []api.Op{
			{Do: api.OpGo, N: -7}, {Do: api.OpIf, A: 9, N: 1 << 40}, {Do: api.OpFork, D: 3, A: 4, N: -129},
			{Do: api.OpJoin}, {Do: api.OpReturn, A: 16},
		}},
	}}
}

// TestExamples: the chapter's examples.
func TestExamples(t *testing.T) {
	for s, p := range map[string]api.Program{
		"\x01\x00": {},
		"\x01\x01\x01\x02\x02\x01\x01\x01\x0e\x01": one(api.Op{Do: api.OpSet, D: 1, N: -1}, api.Op{Do: api.OpReturn, A: 1}),
	} {
		if x, e := Encode(p); x != s || e != api.OK {
			t.Errorf("Encode(%v): %x, %v; want %x", p, x, e, s)
		}
		if q, e := Decode(s); !plainSame(p, q) || e != api.OK {
			t.Errorf("Decode(%x): %v, %v; want %v", s, q, e, p)
		}
	}
}

// TestLimits: the limits, the error and the kinds that this layer names are what this package's tests go by.
func TestLimits(t *testing.T) {
	if api.MaxFuncs != mostFuncs || api.MaxOps != mostOps || api.MaxRegs != mostRegs || api.MaxProgram != mostBytes || api.ErrVersion != 100 {
		t.Error(api.MaxFuncs, api.MaxOps, api.MaxRegs, api.MaxProgram, api.ErrVersion)
	}
	l := []uint8{api.OpSet, api.OpCopy, api.OpAdd, api.OpSub, api.OpMul, api.OpDiv, api.OpMod, api.OpLess, api.OpSame, api.OpGo, api.OpIf, api.OpFork, api.OpJoin, api.OpReturn}
	for i, k := range l {
		if int(k) != i+1 {
			t.Errorf("kind %d is %d", i+1, k)
		}
	}
}

// TestBytes (P10.1): the bytes of all kinds of ops, written out by hand.
func TestBytes(t *testing.T) {
	all := "\x01\x03" +
		"\x03\x10\x09" +
		"\x01\x01\xd8\x04" + "\x02\x02\x03" + "\x03\x04\x05\x06" +
		"\x04\x07\x08\x09" + "\x05\x0a\x0b\x0c" + "\x06\x0d\x0e\x0f" +
		"\x07\x10\x0f\x0e" + "\x08\x01\x02\x03" + "\x09\x10\x10\x10" +
		"\x00\x00\x00" +
		"\x10\x02\x05" +
		"\x0a\x0d" + "\x0b\x09\x80\x80\x80\x80\x80\x40" + "\x0c\x03\x04\x81\x02" +
		"\x0d" + "\x0e\x10"
	if s, e := Encode(each()); s != all || e != api.OK {
		t.Errorf("Encode: %x, %v; want %x", s, e, all)
	}
	if p, e := Decode(all); !plainSame(p, each()) || e != api.OK {
		t.Errorf("Decode: %v, %v; want %v", p, e, each())
	}
}

// TestKinds (P10.1): of each kind, what it has may be anything in its bounds, and what it has not is zero; a kind that is none may not be.
func TestKinds(t *testing.T) {
	regs := []int{0, 1, 2, 15, 16, 17, 18, -1, -2, 127, 128, 256, 257, 1 << 32, math.MaxInt64, math.MinInt64}
	numbers := []int64{0, 1, -1, 63, 64, -64, -65, 300, 1 << 32, math.MaxInt64, math.MinInt64, math.MinInt64 + 1}
	for k := range 256 {
		do := uint8(k)
		hold(t, one(api.Op{Do: do}))
		for _, r := range regs {
			hold(t, one(api.Op{Do: do, D: r}))
			hold(t, one(api.Op{Do: do, A: r}))
			hold(t, one(api.Op{Do: do, B: r}))
			hold(t, one(api.Op{Do: do, D: r, A: r}))
			hold(t, one(api.Op{Do: do, D: r, A: r, B: r, N: int64(r)}))
		}
		for _, n := range numbers {
			hold(t, one(api.Op{Do: do, N: n}))
			hold(t, one(api.Op{Do: do, D: 1, N: n}, api.Op{Do: do, A: 1, N: n}))
			hold(t, one(api.Op{Do: do, D: 3, A: 16, N: n}))
		}
	}
}

// TestKindsWords (P10.1): what the chapter says that each kind has, part by part.
func TestKindsWords(t *testing.T) {
	for _, x := range []struct {
		part string
		op   api.Op
		kind []uint8
	}{
		{"D", api.Op{D: 1}, []uint8{1, 2, 3, 4, 5, 6, 7, 8, 9, 12}},
		{"A", api.Op{A: 1}, []uint8{2, 3, 4, 5, 6, 7, 8, 9, 11, 12, 14}},
		{"B", api.Op{B: 1}, []uint8{3, 4, 5, 6, 7, 8, 9}},
		{"N", api.Op{N: 1}, []uint8{1, 10, 11, 12}},
	} {
		var l []uint8
		for k := range 256 {
			o := x.op
			o.Do = uint8(k)
			if May(one(o)) {
				l = append(l, o.Do)
			}
		}
		if !slices.Equal(l, x.kind) {
			t.Errorf("%s: kinds %v, want %v", x.part, l, x.kind)
		}
	}
}

// TestOpAnywhere (P10.1): an op that may not be is found wherever it stands.
func TestOpAnywhere(t *testing.T) {
	for i, f := range each().Funcs {
		for j := range f.Ops {
			p := each()
			p.Funcs[i].Ops[j].Do = 15
			hold(t, p)
			if May(p) {
				t.Errorf("op %d of function %d is none", j, i)
			}
		}
		for _, n := range []int{-1, 17} {
			p, q := each(), each()
			p.Funcs[i].Args = n
			q.Funcs[i].Regs = n
			hold(t, p)
			hold(t, q)
			if May(p) || May(q) {
				t.Errorf("%d arguments, or registers, of function %d", n, i)
			}
		}
	}
}

// TestRegs (P10.1): Args and Regs are from 0 to MaxRegs, whatever the other one is.
func TestRegs(t *testing.T) {
	l := []int{-1, 0, 1, 8, 15, 16, 17, -16, 127, 128, 256, 1 << 32, math.MaxInt64, math.MinInt64}
	for _, a := range l {
		for _, r := range l {
			p := api.Program{Funcs: []api.Func{{Args: a, Regs: r}}}
			hold(t, p)
			if is := May(p); is != (a >= 0 && a <= 16 && r >= 0 && r <= 16) {
				t.Errorf("%d arguments, %d registers: %v", a, r, is)
			}
		}
	}
}

// TestCounts (P10.1): at most MaxFuncs functions, each of at most MaxOps ops.
func TestCounts(t *testing.T) {
	for n := range 20 {
		p := api.Program{Funcs: make([]api.Func, n)}
		hold(t, p)
		if May(p) != (n <= 16) {
			t.Errorf("%d functions: %v", n, May(p))
		}
	}
	for n := range 70 {
		l := make([]api.Op, n)
		for i := range l {
			l[i].Do = api.OpJoin
		}
		p := one(l...)
		q := api.Program{Funcs: []api.Func{{}, p.Funcs[0]}}
		hold(t, p)
		hold(t, q)
		if May(p) != (n <= 64) || May(q) != (n <= 64) {
			t.Errorf("%d ops: %v, %v", n, May(p), May(q))
		}
	}
	many := one(make([]api.Op, 1<<16)...)
	want(t, "many ops", refused(many), api.ErrArg)
	want(t, "many functions", refused(api.Program{Funcs: make([]api.Func, 1<<16)}), api.ErrArg)
}

// refused is the error with which a program is not written.
func refused(p api.Program) api.Errno {
	s, e := Encode(p)
	if s != "" {
		return api.OK
	}
	return e
}

// TestGreatest (P10.1, P10.4): the program of the most bytes is written, since it has fewer than MaxProgram, and read.
func TestGreatest(t *testing.T) {
	p := greatest()
	hold(t, p)
	s, e := Encode(p)
	want(t, "Encode", e, api.OK)
	if len(s) != 2+16*(3+64*13) || len(s) > mostBytes {
		t.Errorf("%d bytes", len(s))
	}
	want(t, "Decode", read(t, s), api.OK)
	want(t, "with a byte behind it", read(t, s+"\x00"), api.ErrForm)
	p.Funcs = append(p.Funcs, api.Func{})
	hold(t, p)
}

// TestBound (P10.1, P10.2): what is too much for a program is told by its bytes alone, since no program that has its form has so many.
func TestBound(t *testing.T) {
	l := strings.Repeat("\x00", mostBytes)
	if s, e := bound(l); s != l || e != api.OK {
		t.Errorf("MaxProgram bytes: %d, %v", len(s), e)
	}
	if s, e := bound(l + "\x00"); s != "" || e != api.ErrLong {
		t.Errorf("a byte more: %d, %v", len(s), e)
	}
}

// TestNoLists (R4): lists that are nil, and those without elements, are the same.
func TestNoLists(t *testing.T) {
	none := []api.Program{{}, {Funcs: []api.Func{}}}
	empty := []api.Program{{Funcs: []api.Func{{Args: 1}}}, {Funcs: []api.Func{{Args: 1, Ops: []api.Op{}}}}}
	for _, l := range [][]api.Program{none, empty} {
		for _, a := range l {
			hold(t, a)
			for _, b := range l {
				if !Same(a, b) {
					t.Errorf("%#v and %#v: not the same", a, b)
				}
			}
			want(t, "Decode", read(t, plainBytes(a)), api.OK)
		}
	}
	if Same(none[1], empty[1]) || Same(empty[0], none[0]) {
		t.Error("no function is the same as one without ops")
	}
}

// TestDecodeLong (P10.2, R2): more than MaxProgram bytes are told ahead of all else.
func TestDecodeLong(t *testing.T) {
	for _, front := range []string{"", "\x01\x00", "\x02", "\x80\x00", "\xff"} {
		s := front + strings.Repeat("\x80", mostBytes-len(front))
		if e := read(t, s); e == api.ErrLong || e == api.OK {
			t.Errorf("%x ..: %v", front, e)
		}
		want(t, "a byte more", read(t, s+"\x80"), api.ErrLong)
		want(t, "many more", read(t, s+s+s), api.ErrLong)
	}
}

// TestDecodeVersion (P10.2, R2): first a number is to stand at the front, then it is to be 1, then all else is to be right.
func TestDecodeVersion(t *testing.T) {
	behind := []string{"", "\x00", "\x80", "\x11", "\x00\x00", "\x01\x01\x02\x00", "\xff\xff"}
	for _, none := range []string{"", "\x80", "\x80\x80", "\xff\xff\xff", "\xff\xff\xff\xff\xff\xff\xff\xff\xff"} {
		want(t, "bytes are wanting", read(t, none), api.ErrForm)
	}
	for _, s := range behind {
		for _, none := range []string{"\x80\x00", "\x81\x00", "\x81\x80\x00", "\xff\xff\xff\xff\xff\xff\xff\xff\xff\x02", "\x80\x80\x80\x80\x80\x80\x80\x80\x80\x80\x01"} {
			want(t, "no number", read(t, none+s), api.ErrForm)
		}
		for _, v := range []uint64{0, 2, 3, 127, 128, 129, 256, 257, 1<<32 + 1, 1 << 63, 1<<64 - 1} {
			want(t, "another version", read(t, plainNumber(v)+s), api.ErrVersion)
		}
		if e := read(t, "\x01"+s); e == api.ErrVersion {
			t.Errorf("01 %x: %v", s, e)
		}
	}
	want(t, "nothing behind the version", read(t, "\x01"), api.ErrForm)
}

// TestDecodeForm (P10.2): bytes of what has not its form.
func TestDecodeForm(t *testing.T) {
	join := "\x0d"
	for _, s := range []string{
		"\x01\x11" + strings.Repeat("\x00\x00\x00", 17),            // functions above MaxFuncs
		"\x01\x02\x00\x00\x00",                                     // fewer functions than it says
		"\x01\x01\x11\x00\x00",                                     // arguments above MaxRegs
		"\x01\x01\x00\x11\x00",                                     // registers above MaxRegs
		"\x01\x01\x80\x02\x00\x00",                                 // 256 arguments
		"\x01\x01\x00\x00\x41" + strings.Repeat(join, 65),          // ops above MaxOps
		"\x01\x01\x00\x00\x02" + join,                              // fewer ops than it says
		"\x01\x01\x00\x00\x01" + join + join,                       // more ops than it says
		"\x01\x01\x00\x00\x01\x00",                                 // no kind
		"\x01\x01\x00\x00\x01\x0f",                                 // no kind
		"\x01\x01\x00\x00\x01\xff\x01",                             // no kind
		"\x01\x01\x00\x00\x01\x8d\x02",                             // 269: OpJoin's byte, were the number cut to one
		"\x01\x01\x00\x00\x01\x02\x11\x00",                         // D above MaxRegs
		"\x01\x01\x00\x00\x01\x02\x00\x11",                         // A above MaxRegs
		"\x01\x01\x00\x00\x01\x03\x00\x00\x11",                     // B above MaxRegs
		"\x01\x01\x00\x00\x01\x03\x00\x00",                         // B is wanting
		"\x01\x01\x00\x00\x01\x01\x00",                             // N is wanting
		"\x01\x01\x00\x00\x01\x0a\x80\x00",                         // N is no number
		"\x01\x01\x00\x00\x01\x0d\x00",                             // D of an op that has none
		"\x01\x80\x00",                                             // a second way to write 0
		"\x01\x81\x00\x00\x00\x00",                                 // a second way to write 1
		"\x01\x01\x00\x00\x81\x00" + join,                          // a second way to write 1
		"\x01\x01\x00\x00\x01\x8d\x00",                             // a second way to write 13
		"\x01\x00\x00",                                             // a byte too many
		"\x01\xff\xff\xff\xff\xff\xff\xff\xff\xff\x01",             // as many functions as can be said
		"\x01\x01\x00\x00\xff\xff\xff\xff\xff\xff\xff\xff\xff\x01", // as many ops as can be said
	} {
		want(t, "Decode", read(t, s), api.ErrForm)
	}
	want(t, "MaxFuncs", read(t, "\x01\x10"+strings.Repeat("\x10\x10\x00", 16)), api.OK)
	want(t, "MaxOps", read(t, "\x01\x01\x00\x00\x40"+strings.Repeat(join, 64)), api.OK)
	want(t, "all bits of N", read(t, "\x01\x01\x00\x00\x01\x0a\xff\xff\xff\xff\xff\xff\xff\xff\xff\x01"), api.OK)
}

// TestShort (P10.2, P10.4): all texts of few bytes, and all that stand behind the head of a function.
func TestShort(t *testing.T) {
	read(t, "")
	for _, front := range []string{"", "\x01", "\x01\x01", "\x01\x01\x02\x03", "\x01\x01\x00\x00\x01"} {
		for a := range 256 {
			read(t, front+string([]byte{byte(a)}))
			for b := range 256 {
				read(t, front+string([]byte{byte(a), byte(b)}))
			}
		}
	}
	for do := range 16 {
		for a := range 20 {
			for b := range 20 {
				for c := range 20 {
					read(t, "\x01\x01\x00\x00\x01"+string([]byte{byte(do), byte(a), byte(b), byte(c)}))
				}
			}
		}
	}
}

// TestOtherBytes (P10.2, P10.4, W6): bytes that are cut off, or have one changed, one too many, or one taken out, are told, or are another program's.
func TestOtherBytes(t *testing.T) {
	s := plainBytes(each())
	for i := range len(s) {
		want(t, "cut off", read(t, s[:i]), api.ErrForm)
		read(t, s[:i]+s[i+1:])
		for b := range 256 {
			other := s[:i] + string([]byte{byte(b)})
			read(t, other+s[i:])
			if e := read(t, other+s[i+1:]); e != api.OK || byte(b) == s[i] {
				continue
			}
			if p, _ := Decode(other + s[i+1:]); Same(p, each()) {
				t.Errorf("byte %d is %x, and the program is the same", i, b)
			}
		}
	}
	big := plainBytes(greatest())
	for i := 0; i < len(big); i += 7 {
		want(t, "cut off", read(t, big[:i]), api.ErrForm)
	}
}

// TestSame (P10.3): each item of a program is held against the other one's.
func TestSame(t *testing.T) {
	change := []func(p *api.Program){
		func(p *api.Program) { p.Funcs[2].Args++ },
		func(p *api.Program) { p.Funcs[0].Regs-- },
		func(p *api.Program) { p.Funcs[1].Args = -1 },
		func(p *api.Program) { p.Funcs[1].Ops = make([]api.Op, 1) },
		func(p *api.Program) { p.Funcs[0].Ops[8].Do++ },
		func(p *api.Program) { p.Funcs[0].Ops[0].D = -1 },
		func(p *api.Program) { p.Funcs[0].Ops[3].A = 99 },
		func(p *api.Program) { p.Funcs[0].Ops[3].B++ },
		func(p *api.Program) { p.Funcs[2].Ops[3].B++ },
		func(p *api.Program) { p.Funcs[2].Ops[4].N++ },
		func(p *api.Program) { p.Funcs[2].Ops[0].N ^= math.MinInt64 },
		func(p *api.Program) { p.Funcs[2].Ops = p.Funcs[2].Ops[:4] },
		func(p *api.Program) { p.Funcs = p.Funcs[:2] },
		func(p *api.Program) { p.Funcs = append(p.Funcs, api.Func{}) },
		func(p *api.Program) { p.Funcs[0], p.Funcs[1] = p.Funcs[1], p.Funcs[0] },
		func(p *api.Program) {
			l := p.Funcs[0].Ops
			l[0], l[1] = l[1], l[0]
		},
		func(p *api.Program) { p.Funcs = nil },
	}
	for i, f := range change {
		p := each()
		f(&p)
		if Same(p, each()) || Same(each(), p) {
			t.Errorf("change %d: the same", i)
		}
		q := each()
		f(&q)
		if !Same(p, q) {
			t.Errorf("change %d, twice: not the same", i)
		}
		hold(t, p)
	}
	if !Same(each(), each()) || !Same(greatest(), greatest()) || Same(each(), greatest()) {
		t.Error("Same")
	}
}

// span is where elements stand: from one byte to the one behind the last one's.
func span[T any](l []T) (from, to uintptr) {
	var x T
	from = uintptr(unsafe.Pointer(unsafe.SliceData(l)))
	return from, from + uintptr(cap(l))*unsafe.Sizeof(x)
}

// shared tells whether two lists stand in the same memory; one without room stands nowhere, if it is none.
func shared[T any](a, b []T) bool {
	if a == nil || b == nil {
		return false
	}
	af, at := span(a)
	bf, bt := span(b)
	return af == bf && af < max(at, bt) || af < bt && bf < at
}

// apart fails if two programs share memory, or if lists of the first one do.
func apart(t *testing.T, what string, a, b api.Program) {
	t.Helper()
	if shared(a.Funcs, b.Funcs) {
		t.Errorf("%s: functions are shared", what)
	}
	for i, f := range a.Funcs {
		for _, g := range b.Funcs {
			if shared(f.Ops, g.Ops) {
				t.Errorf("%s: ops are shared", what)
			}
		}
		for _, g := range a.Funcs[:i] {
			if shared(f.Ops, g.Ops) {
				t.Errorf("%s: ops are shared by two functions", what)
			}
		}
	}
}

// TestNewMemory (P10.3, R5): a copy, and what is read, have lists of their own, those without elements among them.
func TestNewMemory(t *testing.T) {
	ops := each().Funcs[0].Ops
	for _, p := range []api.Program{
		each(),
		greatest(),
		one(ops...),
		{Funcs: []api.Func{{Ops: ops}, {Ops: ops[2:4]}, {Ops: ops[:0]}, {Ops: ops[:0]}}},
		{Funcs: each().Funcs[:0]},
	} {
		was := deep(p)
		c, d := Copy(p), Copy(p)
		apart(t, "Copy", c, p)
		apart(t, "two copies", c, d)
		s, _ := Encode(p)
		x, _ := Decode(s)
		y, _ := Decode(s)
		apart(t, "Decode", x, p)
		apart(t, "Decode, twice", x, y)
		for _, q := range []api.Program{c, x} {
			for i := range q.Funcs {
				q.Funcs[i].Ops = append(q.Funcs[i].Ops, api.Op{Do: 99})
				clear(q.Funcs[i].Ops)
				q.Funcs[i].Args = 99
			}
		}
		if !plainSame(p, was) || !plainSame(d, was) || !plainSame(y, was) {
			t.Error("what is done to a copy is done to another one")
		}
	}
}

// TestCopyAny (P10.3): a program that has not its form is copied as it is.
func TestCopyAny(t *testing.T) {
	hold(t, one(api.Op{Do: 200, D: -5, A: math.MaxInt64, B: math.MinInt64, N: 3}))
	hold(t, api.Program{Funcs: []api.Func{{Args: -1, Regs: 1 << 40, Ops: make([]api.Op, 100)}, {Args: 5}}})
	hold(t, api.Program{Funcs: make([]api.Func, 40)})
}

// TestZero (R2): with an error all else is zero.
func TestZero(t *testing.T) {
	if s, e := Encode(one(api.Op{})); s != "" || e != api.ErrArg {
		t.Errorf("Encode: %x, %v", s, e)
	}
	for _, s := range []string{"", "\x02", plainBytes(each()) + "\x00", plainBytes(each())[:20], strings.Repeat("\x01", mostBytes+1)} {
		if p, e := Decode(s); !reflect.DeepEqual(p, api.Program{}) || e == api.OK {
			t.Errorf("Decode(%x): %v, %v", s, p, e)
		}
	}
}

// drawnOp is an op that may be, or, if it is wild, may not.
func drawnOp(r *rand.Rand, wild bool) api.Op {
	o := api.Op{Do: uint8(1 + r.Intn(14))}
	reg := func(has bool) int {
		if wild && r.Intn(40) == 0 {
			return r.Intn(24) - 4
		}
		if !has {
			return 0
		}
		return r.Intn(17)
	}
	o.D, o.A, o.B = reg(plainD(o.Do)), reg(plainA(o.Do)), reg(plainB(o.Do))
	if plainN(o.Do) || wild && r.Intn(80) == 0 {
		o.N = int64(r.Uint64()) >> r.Intn(64)
	}
	if wild && r.Intn(80) == 0 {
		o.Do = uint8(r.Intn(20))
	}
	return o
}

func drawn(r *rand.Rand, wild bool) (p api.Program) {
	n := r.Intn(5)
	if r.Intn(20) == 0 {
		n = r.Intn(17)
	}
	for range n {
		f := api.Func{Args: r.Intn(17), Regs: r.Intn(17)}
		for range r.Intn(12) {
			f.Ops = append(f.Ops, drawnOp(r, wild))
		}
		p.Funcs = append(p.Funcs, f)
	}
	return p
}

// TestDrawn (P10.1 to P10.4, R6): drawn programs, and drawn bytes that are nearly theirs, each twice.
func TestDrawn(t *testing.T) {
	r := rand.New(rand.NewSource(10))
	for range 4000 {
		p := drawn(r, false)
		hold(t, p)
		hold(t, p)
		hold(t, drawn(r, true))
		s := []byte(plainBytes(p))
		for range r.Intn(3) {
			s[r.Intn(len(s))] = byte(r.Intn(20))
		}
		if read(t, string(s)) != read(t, string(s)) {
			t.Error("another answer")
		}
		q := drawn(r, false)
		if Same(p, q) != plainSame(p, q) {
			t.Errorf("Same(%v, %v): %v", p, q, Same(p, q))
		}
	}
}

// FuzzProgram looks for bytes that are read wrongly.
func FuzzProgram(f *testing.F) {
	f.Add("")
	f.Add("\x01\x00")
	f.Add("\x02\x00")
	f.Add("\x01\x01\x01\x02\x02\x01\x01\x01\x0e\x01")
	f.Add(plainBytes(each()))
	f.Add(plainBytes(greatest()))
	f.Fuzz(func(t *testing.T, s string) {
		read(t, s)
		if p, e := Decode(s); e == api.OK {
			hold(t, p)
		}
	})
}

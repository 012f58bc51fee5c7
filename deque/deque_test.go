package deque

import (
	"fmt"
	"iter"
	"math"
	"math/rand"
	"slices"
	"testing"

	"thresher/api"
	"thresher/cell"
)

// The chapters' numbers, as they have them.
const (
	goes, done, got, empty, lost = uint8(0), uint8(1), uint8(2), uint8(3), uint8(4)

	mostCells = 65536
	mostLog   = 8
	errNil    = api.Errno(1)
	errArg    = api.Errno(2)
	errState  = api.Errno(3)
	errNone   = api.Errno(5)
	errFull   = api.Errno(6)
)

// world is a memory by the chapters' words, from the test's first cell on.
type world struct {
	from  int
	cells []int64
	steps int
}

func (w *world) at(i int64) *int64 { return &w.cells[int(i)-w.from] }

// plain is a deque by the chapter's words: its first cell.
type plain struct {
	*world
	first int64
	owner *plainAct
}

func (w *world) deque(log int) *plain {
	p := &plain{world: w, first: int64(w.from + len(w.cells))}
	w.cells = append(w.cells, 0, 0, p.first+3, 1<<log)
	w.cells = append(w.cells, make([]int64, 1<<log)...)
	return p
}

func (p *plain) top() *int64    { return p.at(p.first) }
func (p *plain) bottom() *int64 { return p.at(p.first + 1) }
func (p *plain) where() *int64  { return p.at(p.first + 2) }

func (p *plain) size() int {
	if *p.bottom() < *p.top() {
		return 0
	}
	return int(*p.bottom() - *p.top())
}

// plainAct is an act that is written down straight on: it stops ahead of each step, till it is its turn.
type plainAct struct {
	go1  func() (bool, bool) // it goes on by a step; false of a More that was refused
	stop func()
	came uint8
	got  int64
	kind string
}

// stopped is what an act is left by that is given up on its way.
type stopped struct{}

// turns is a deque, as an act has it: turn comes back once it is its turn; it tells whether what came ahead was done.
type turns struct {
	*plain
	turn func(bool)
}

func (y turns) load(i int64) int64 {
	y.turn(true)
	y.steps++
	return *y.at(i)
}

func (y turns) store(i, v int64) {
	y.turn(true)
	y.steps++
	*y.at(i) = v
}

func (y turns) swap(i, old, v int64) bool {
	y.turn(true)
	y.steps++
	is := *y.at(i) == old
	if is {
		*y.at(i) = v
	}
	return is
}

func (y turns) more(n int64) int64 {
	y.turn(true)
	for y.from+len(y.cells)+1+int(n) > mostCells {
		y.turn(false)
	}
	at := int64(y.from + len(y.cells))
	y.cells = append(append(y.cells, n), make([]int64, n)...)
	return at
}

func (y turns) push(v int64) (uint8, int64) {
	b := y.load(y.first + 1)
	t := y.load(y.first)
	w := y.load(y.first + 2)
	n := y.load(w)
	if b-t >= n {
		w2, n2 := y.more(2*n), 2*n
		for i := t; i <= b-1; i++ {
			x := y.load(w + 1 + i%n)
			y.store(w2+1+i%n2, x)
		}
		y.store(y.first+2, w2)
		w, n = w2, n2
	}
	y.store(w+1+b%n, v)
	y.store(y.first+1, b+1)
	return done, 0
}

func (y turns) pop() (uint8, int64) {
	b := y.load(y.first+1) - 1
	w := y.load(y.first + 2)
	y.store(y.first+1, b)
	t := y.load(y.first)
	if t > b {
		y.store(y.first+1, b+1)
		return empty, 0
	}
	n := y.load(w)
	v := y.load(w + 1 + b%n)
	if t < b {
		return got, v
	}
	won := y.swap(y.first, t, t+1)
	y.store(y.first+1, b+1)
	if won {
		return got, v
	}
	return empty, 0
}

func (y turns) steal() (uint8, int64) {
	t := y.load(y.first)
	b := y.load(y.first + 1)
	if t >= b {
		return empty, 0
	}
	w := y.load(y.first + 2)
	n := y.load(w)
	v := y.load(w + 1 + t%n)
	if y.swap(y.first, t, t+1) {
		return got, v
	}
	return lost, 0
}

// begin is an act ahead of its first step.
func (p *plain) begin(kind string, does func(turns) (uint8, int64)) *plainAct {
	a := &plainAct{kind: kind}
	a.go1, a.stop = iter.Pull(func(yield func(bool) bool) {
		defer func() {
			if x := recover(); x != nil && x != any(stopped{}) {
				panic(x)
			}
		}()
		a.came, a.got = does(turns{p, func(is bool) {
			if !yield(is) {
				panic(stopped{})
			}
		}})
	})
	a.go1()
	return a
}

// own is an act of the owner.
func (p *plain) own(kind string, does func(turns) (uint8, int64)) *plainAct {
	p.owner = p.begin(kind, does)
	return p.owner
}

func (p *plain) push(v int64) *plainAct {
	return p.own("push", func(y turns) (uint8, int64) { return y.push(v) })
}

func (p *plain) pop() *plainAct   { return p.own("pop", turns.pop) }
func (p *plain) steal() *plainAct { return p.begin("steal", turns.steal) }

func (p *plain) owned() bool { return p.owner != nil && p.owner.came == goes }

// both is an act of a deque, and the same by the chapter's words; a push's value.
type both struct {
	a *Act
	p *plainAct
	v int64
}

func (x both) over() bool { return x.p.came != goes }

// pair is a deque, and what the chapter says of it; left is the values that were pushed, and that nobody got.
type pair struct {
	*memory
	d    *Deque
	p    *plain
	left []int64
}

// memory is one that some deques share, and what the chapters say of it; read is how many steps the test did.
type memory struct {
	t     *testing.T
	m     *cell.Mem
	w     *world
	read  int
	all   []*pair
	acts  []both
	quiet bool // nothing is held
}

func newMemory(t *testing.T, from int) *memory {
	t.Helper()
	y := &memory{t: t, m: cell.New(), w: &world{from: from}}
	if at, e := y.m.More(make([]int64, from)...); at != 0 || e != 0 {
		t.Fatal("More:", at, e)
	}
	return y
}

func (y *memory) deque(log int) *pair {
	y.t.Helper()
	d, e := New(y.m, log)
	if e != 0 || d == nil {
		y.t.Fatal("New:", d, e)
	}
	x := &pair{memory: y, d: d, p: y.w.deque(log)}
	y.all = append(y.all, x)
	y.hold()
	return x
}

// end gives up the acts that are under way.
func (y *memory) end() {
	for _, x := range y.acts {
		x.p.stop()
	}
}

// hold holds all that can be told against the chapters' words: each cell, each act.
func (y *memory) hold() {
	y.t.Helper()
	if y.quiet {
		return
	}
	if n, want := y.m.Len(), y.w.from+len(y.w.cells); n != want {
		y.t.Fatalf("Len: %d, want %d", n, want)
	}
	for _, x := range y.all {
		if n, want := x.d.Size(), x.p.size(); n != want {
			y.t.Fatalf("Size: %d, want %d", n, want)
		}
	}
	if n, want := y.m.Steps()-y.read, y.w.steps; n != want {
		y.t.Fatalf("Steps: %d, want %d", n, want)
	}
	for i, want := range y.w.cells {
		v, e := y.m.Load(y.w.from + i)
		y.read++
		if v != want || e != 0 {
			y.t.Fatalf("the cell %d: %d, %d, want %d", y.w.from+i, v, e, want)
		}
	}
	for _, x := range y.acts {
		if c, v := x.a.Told(); c != x.p.came || v != x.p.got {
			y.t.Fatalf("Told of a %s: %d, %d, want %d, %d", x.p.kind, c, v, x.p.came, x.p.got)
		}
	}
}

// begun holds what came of a call that begins an act against the chapter's words.
func (x *pair) begun(a *Act, e api.Errno, refused bool, begin func() *plainAct, v int64) (both, api.Errno) {
	x.t.Helper()
	if refused {
		if a != nil || e != errState {
			x.t.Fatalf("an owner's second act: %v, %d", a, e)
		}
		x.hold()
		return both{}, e
	}
	if a == nil || e != 0 {
		x.t.Fatalf("an act: %v, %d", a, e)
	}
	z := both{a, begin(), v}
	x.acts = append(x.acts, z)
	x.hold()
	return z, 0
}

func (x *pair) push(v int64) (both, api.Errno) {
	x.t.Helper()
	a, e := x.d.Push(v)
	return x.begun(a, e, x.p.owned(), func() *plainAct { return x.p.push(v) }, v)
}

func (x *pair) pop() (both, api.Errno) {
	x.t.Helper()
	a, e := x.d.Pop()
	return x.begun(a, e, x.p.owned(), x.p.pop, 0)
}

func (x *pair) steal() (both, api.Errno) {
	x.t.Helper()
	a, e := x.d.Steal()
	return x.begun(a, e, false, x.p.steal, 0)
}

// step does a step of an act, and holds it against the chapter's words.
func (x *pair) step(z both) (uint8, int64, api.Errno) {
	x.t.Helper()
	was := z.over()
	c, v, e := z.a.Step()
	wantC, wantV, want := uint8(0), int64(0), errState
	if !was {
		is, on := z.p.go1()
		want = 0
		if on && !is {
			want = errFull
		}
		wantC, wantV = z.p.came, z.p.got
	}
	if c != wantC || v != wantV || e != want {
		x.t.Fatalf("Step of a %s: %d, %d, %d, want %d, %d, %d", z.p.kind, c, v, e, wantC, wantV, want)
	}
	if !was && c != goes {
		x.told(z.p.kind, c, v, z.v)
	}
	x.hold()
	return c, v, e
}

// told holds what an act came to against P16.4.
func (x *pair) told(kind string, c uint8, v, pushed int64) {
	x.t.Helper()
	switch n := len(x.left); {
	case c == done && kind == "push":
		x.left = append(x.left, pushed)
	case c == got && kind == "pop" && n > 0 && x.left[n-1] == v:
		x.left = x.left[:n-1]
	case c == got && kind == "steal" && n > 0 && x.left[0] == v:
		x.left = x.left[1:]
	case c == empty && kind == "pop" && n == 0:
	case c == empty && kind == "steal", c == lost && kind == "steal":
	default:
		x.t.Fatalf("a %s came to %d, %d; left: %v", kind, c, v, x.left)
	}
}

// whole does all steps of an act; it answers how many there were.
func (x *pair) whole(z both, e api.Errno) (uint8, int64, int) {
	x.t.Helper()
	if e != 0 {
		x.t.Fatal("an act:", e)
	}
	for n := 1; n < 1e6; n++ {
		if c, v, e := x.step(z); c != goes || e != 0 {
			return c, v, n
		}
	}
	x.t.Fatal("an act without an end")
	return 0, 0, 0
}

// tests of a push, a pop, a steal that is done whole.
func (x *pair) wantWhole(z both, e api.Errno, c uint8, v int64, n int) {
	x.t.Helper()
	if gc, gv, gn := x.whole(z, e); gc != c || gv != v || gn != n {
		x.t.Errorf("a %s: %d, %d by %d steps, want %d, %d by %d", z.p.kind, gc, gv, gn, c, v, n)
	}
}

func (x *pair) wantPush(v int64, n int) {
	x.t.Helper()
	z, e := x.push(v)
	x.wantWhole(z, e, done, 0, n)
}

func (x *pair) wantPop(c uint8, v int64, n int) {
	x.t.Helper()
	z, e := x.pop()
	x.wantWhole(z, e, c, v, n)
}

func (x *pair) wantSteal(c uint8, v int64, n int) {
	x.t.Helper()
	z, e := x.steal()
	x.wantWhole(z, e, c, v, n)
}

// goOn does n steps of an act that is not over by them.
func (x *pair) goOn(z both, n int) {
	x.t.Helper()
	for i := range n {
		if c, v, e := x.step(z); c != goes || v != 0 || e != 0 {
			x.t.Fatalf("step %d of a %s: %d, %d, %d", i+1, z.p.kind, c, v, e)
		}
	}
}

// wantStep does one step.
func (x *pair) wantStep(z both, c uint8, v int64) {
	x.t.Helper()
	if gc, gv, e := x.step(z); gc != c || gv != v || e != 0 {
		x.t.Errorf("a step of a %s: %d, %d, %d, want %d, %d", z.p.kind, gc, gv, e, c, v)
	}
}

// TestNumbers (P16.3, R7): the numbers of the chapter's words are those of api.
func TestNumbers(t *testing.T) {
	if api.ActGoes != goes || api.ActDone != done || api.ActGot != got || api.ActEmpty != empty || api.ActLost != lost {
		t.Error(api.ActGoes, api.ActDone, api.ActGot, api.ActEmpty, api.ActLost)
	}
	if api.MaxLog != mostLog || api.MaxCells != mostCells {
		t.Error(api.MaxLog, api.MaxCells)
	}
	if api.ErrNil != errNil || api.ErrArg != errArg || api.ErrState != errState || api.ErrNone != errNone || api.ErrFull != errFull {
		t.Error(api.ErrNil, api.ErrArg, api.ErrState, api.ErrNone, api.ErrFull)
	}
}

// TestExample (P16.4): the chapter's example.
func TestExample(t *testing.T) {
	for log := range 3 {
		y := newMemory(t, 0)
		x := y.deque(log)
		z, e := x.push(5)
		x.whole(z, e)
		z, e = x.push(6)
		x.whole(z, e)
		s, _ := x.steal()
		x.goOn(s, 5)
		x.wantPop(got, 6, 6)
		p, _ := x.pop()
		x.goOn(p, 4)
		x.wantStep(s, got, 5)
		x.goOn(p, 3)
		x.wantStep(p, empty, 0)
		if len(x.left) != 0 {
			t.Error(x.left)
		}
	}
}

// TestNew (P16.1): a deque's cells, at each log, behind those that were there, by no step.
func TestNew(t *testing.T) {
	m, first := cell.New(), 0
	for _, more := range [][]int64{nil, {7}, {0, 0, 0, 0}} {
		for log := range mostLog + 1 {
			m.More(more...)
			first += len(more)
			was := m.Steps()
			d, e := New(m, log)
			if d == nil || e != 0 || d.Size() != 0 || m.Steps() != was {
				t.Fatal("New:", log, d, e, m.Steps()-was)
			}
			want := append([]int64{0, 0, int64(first + 3), 1 << log}, make([]int64, 1<<log)...)
			if n := m.Len(); n != first+len(want) {
				t.Fatalf("Len: %d, want %d", n, first+len(want))
			}
			for i, w := range want {
				if v, e := m.Load(first + i); v != w || e != 0 {
					t.Errorf("log %d: the cell %d: %d, %d, want %d", log, i, v, e, w)
				}
			}
			first += len(want)
		}
	}
}

// TestNewWrong (P16.1, R2, R3): no memory, ahead of logs that may not be; these, ahead of a memory that is full; that one, exactly. Nothing is made.
func TestNewWrong(t *testing.T) {
	logs := []int{-1, mostLog + 1, math.MinInt, math.MaxInt, 64, 63, 256, -8}
	for i, m := range []*cell.Mem{nil, {}, new(cell.Mem)} {
		for _, log := range append(logs, 0, 8) {
			if d, e := New(m, log); d != nil || e != errNil {
				t.Error("no memory:", i, log, d, e)
			}
		}
	}
	full := cell.New()
	full.More(make([]int64, mostCells)...)
	for _, m := range []*cell.Mem{cell.New(), full} {
		n := m.Len()
		for _, log := range logs {
			if d, e := New(m, log); d != nil || e != errArg {
				t.Error("log:", log, d, e)
			}
		}
		if m.Len() != n || m.Steps() != 0 {
			t.Error("made:", m.Len(), m.Steps())
		}
	}
	for log := range mostLog + 1 {
		room := 4 + 1<<log
		m := cell.New()
		m.More(make([]int64, mostCells-room+1)...)
		if d, e := New(m, log); d != nil || e != errFull || m.Len() != mostCells-room+1 {
			t.Error("full:", log, d, e, m.Len())
		}
		m = cell.New()
		m.More(make([]int64, mostCells-room)...)
		if d, e := New(m, log); d == nil || e != 0 || m.Len() != mostCells {
			t.Error("just room:", log, d, e, m.Len())
		}
	}
}

// TestSize (P16.1): as the cells are, while acts are under way: a pop of none has bottom below top.
func TestSize(t *testing.T) {
	y := newMemory(t, 0)
	x := y.deque(1)
	want := func(n int) {
		t.Helper()
		was := y.m.Steps()
		if k := x.d.Size(); k != n || y.m.Steps() != was {
			t.Errorf("Size: %d, want %d; %d steps", k, n, y.m.Steps()-was)
		}
	}
	want(0)
	p, _ := x.push(1)
	x.goOn(p, 5)
	want(0)
	x.wantStep(p, done, 0)
	want(1)
	x.wantPush(2, 6)
	want(2)
	s, _ := x.steal()
	x.goOn(s, 5)
	want(2)
	x.wantStep(s, got, 1)
	want(1)
	p, _ = x.pop()
	x.goOn(p, 2)
	want(1)
	x.goOn(p, 1)
	want(0)
	x.goOn(p, 3)
	want(0)
	x.goOn(p, 1) // the swap: bottom is below top
	want(0)
	if v, _ := y.m.Load(0); v != 2 {
		t.Error("top:", v)
	}
	y.read++
	x.wantStep(p, got, 2)
	want(0)
	p, _ = x.pop()
	x.goOn(p, 3)
	want(0) // 1 less 2
	x.wantPushRefused()
	x.goOn(p, 1)
	x.wantStep(p, empty, 0)
	want(0)
}

// wantPushRefused (P16.2): an owner's act is not over.
func (x *pair) wantPushRefused() {
	x.t.Helper()
	if _, e := x.push(1); e != errState {
		x.t.Error("Push:", e)
	}
	if _, e := x.pop(); e != errState {
		x.t.Error("Pop:", e)
	}
}

// TestBegin (P16.2): the owner's acts are one at a time, up to the last step of each; steals are as many as there are; no step is done by them.
func TestBegin(t *testing.T) {
	y := newMemory(t, 0)
	x, other := y.deque(0), y.deque(0)
	for _, begin := range []func() (both, api.Errno){func() (both, api.Errno) { return x.push(3) }, func() (both, api.Errno) { return x.push(4) }, x.pop, x.pop, x.pop} {
		z, e := begin()
		if e != 0 {
			t.Fatal(e)
		}
		for range 100 {
			x.wantPushRefused()
			if s, e := x.steal(); e != 0 || s.a == z.a {
				t.Fatal("Steal:", e)
			}
			if _, e := other.d.Push(1); e != 0 && e != errState { // another deque's owner is another one
				t.Fatal("another deque:", e)
			}
			if c, _, _ := x.step(z); c != goes {
				break
			}
		}
		if !z.over() {
			t.Fatal("an act without an end")
		}
	}
	y.end()
	y = newMemory(t, 0)
	x, other = y.deque(0), y.deque(0)
	p, _ := x.push(1)
	other.wantPush(2, 6)
	q, _ := other.pop()
	x.goOn(p, 1)
	other.goOn(q, 1)
	x.wantPushRefused()
	other.wantPushRefused()
	y.end()
}

// TestPushSteps (P16.3): a push's steps: what each one writes; without and with growing, of none, some and all stolen.
func TestPushSteps(t *testing.T) {
	m := cell.New()
	d, _ := New(m, 1)
	cells := func(want ...int64) {
		t.Helper()
		var l []int64
		for i := range m.Len() {
			v, _ := m.Load(i)
			l = append(l, v)
		}
		if !slices.Equal(l, want) {
			t.Fatalf("the cells are %v, want %v", l, want)
		}
	}
	a, _ := d.Push(8)
	next := func(c uint8, v int64, steps int) {
		t.Helper()
		was := m.Steps()
		if gc, gv, e := a.Step(); gc != c || gv != v || e != 0 || m.Steps() != was+steps {
			t.Fatalf("Step: %d, %d, %d, %d steps", gc, gv, e, m.Steps()-was)
		}
	}
	for range 4 {
		next(goes, 0, 1)
		cells(0, 0, 3, 2, 0, 0)
	}
	next(goes, 0, 1)
	cells(0, 0, 3, 2, 8, 0)
	next(done, 0, 1)
	cells(0, 1, 3, 2, 8, 0)
	a, _ = d.Push(9)
	for range 5 {
		next(goes, 0, 1)
	}
	cells(0, 1, 3, 2, 8, 9)
	next(done, 0, 1)
	cells(0, 2, 3, 2, 8, 9)
	a, _ = d.Push(7)
	for range 4 {
		next(goes, 0, 1)
		cells(0, 2, 3, 2, 8, 9)
	}
	next(goes, 0, 0) // a More
	cells(0, 2, 3, 2, 8, 9, 4, 0, 0, 0, 0)
	next(goes, 0, 1)
	cells(0, 2, 3, 2, 8, 9, 4, 0, 0, 0, 0)
	next(goes, 0, 1)
	cells(0, 2, 3, 2, 8, 9, 4, 8, 0, 0, 0)
	next(goes, 0, 1)
	next(goes, 0, 1)
	cells(0, 2, 3, 2, 8, 9, 4, 8, 9, 0, 0)
	next(goes, 0, 1)
	cells(0, 2, 6, 2, 8, 9, 4, 8, 9, 0, 0)
	next(goes, 0, 1)
	cells(0, 2, 6, 2, 8, 9, 4, 8, 9, 7, 0)
	next(done, 0, 1)
	cells(0, 3, 6, 2, 8, 9, 4, 8, 9, 7, 0)
}

// TestGrowth (P16.3): a deque that grows, once and again, from each log on, with values that stand around the end of its places.
func TestGrowth(t *testing.T) {
	for log := range 4 {
		for off := range 9 { // so many were there and went
			y := newMemory(t, 0)
			x := y.deque(log)
			for i := range off {
				x.wantPush(int64(100+i), 6)
				x.wantSteal(got, int64(100+i), 6)
			}
			places := 1 << log
			for i := range 20 {
				steps := 6
				if i == places {
					steps += 2 + 2*i
					places *= 2
				}
				x.wantPush(int64(i+1), steps)
			}
			for i := range 20 {
				if i%3 == 0 {
					x.wantSteal(got, x.left[0], 6)
				} else {
					x.wantPop(got, x.left[len(x.left)-1], map[bool]int{true: 8, false: 6}[len(x.left) == 1])
				}
			}
			x.wantPop(empty, 0, 5)
			x.wantSteal(empty, 0, 2)
		}
	}
}

// TestGrowthMeanwhile (P16.3): of a growing push, what was stolen when top was read is not copied; what is stolen behind that is.
func TestGrowthMeanwhile(t *testing.T) {
	for before := range 5 {
		for behind := range 5 - before {
			y := newMemory(t, 3)
			x := y.deque(2)
			for i := range 4 {
				x.wantPush(int64(i+1), 6)
			}
			p, _ := x.push(5)
			x.goOn(p, 1)
			for i := range before {
				x.wantSteal(got, int64(i+1), 6)
			}
			x.goOn(p, 1)
			for i := range behind {
				x.wantSteal(got, int64(before+i+1), 6)
			}
			steps := 4
			if before == 0 {
				steps += 10
			}
			x.wantWhole(p, 0, done, 0, steps)
			for i := 5; i > before+behind; i-- {
				x.wantPop(got, int64(i), map[bool]int{true: 8, false: 6}[i == before+behind+1])
			}
			x.wantPop(empty, 0, 5)
		}
	}
}

// TestPopSteps (P16.3): a pop's steps, of none, of one, of more, and of one that is stolen ahead of its swap.
func TestPopSteps(t *testing.T) {
	y := newMemory(t, 0)
	x := y.deque(1)
	x.wantPop(empty, 0, 5)
	x.wantPush(math.MinInt64, 6)
	x.wantPush(math.MaxInt64, 6)
	x.wantPop(got, math.MaxInt64, 6)
	x.wantPop(got, math.MinInt64, 8)
	x.wantPop(empty, 0, 5)
	for ahead := range 8 { // a steal, whole, behind so many steps of the pop
		x.wantPush(7, 6)
		p, _ := x.pop()
		x.goOn(p, ahead)
		s, e := x.steal()
		c, v, _ := x.whole(s, e)
		pc, pv, n := x.whole(p, 0)
		switch {
		case ahead <= 2 && (c != got || v != 7 || pc != empty || pv != 0 || n+ahead != 5):
			t.Error("the steal was ahead:", ahead, c, v, pc, pv, n)
		case ahead > 2 && (c != empty || v != 0 || pc != got || pv != 7 || n+ahead != 8):
			t.Error("the pop was ahead:", ahead, c, v, pc, pv, n)
		}
	}
	for ahead := range 8 { // a steal that asked already, and swaps behind so many steps of the pop
		x.wantPush(7, 6)
		s, _ := x.steal()
		x.goOn(s, 5)
		p, _ := x.pop()
		x.goOn(p, ahead)
		c, v, _ := x.whole(s, 0)
		pc, pv, n := x.whole(p, 0)
		if ahead < 7 {
			want := 8
			if ahead < 4 {
				want = 5
			}
			if c != got || v != 7 || pc != empty || pv != 0 || n+ahead != want {
				t.Error("the steal was ahead:", ahead, c, v, pc, pv, n)
			}
		} else if c != lost || v != 0 || pc != got || pv != 7 || n+ahead != 8 {
			t.Error("the pop was ahead:", ahead, c, v, pc, pv, n)
		}
	}
}

// TestStealSteps (P16.3): a steal's steps, of none, of some, and of what others are ahead of: another steal, a pop.
func TestStealSteps(t *testing.T) {
	y := newMemory(t, 0)
	x := y.deque(0)
	x.wantSteal(empty, 0, 2)
	x.wantPush(math.MinInt64, 6)
	x.wantPush(math.MaxInt64, 10)
	a, _ := x.steal()
	b, _ := x.steal()
	x.goOn(a, 5)
	x.goOn(b, 5)
	x.wantStep(b, got, math.MinInt64)
	x.wantStep(a, lost, 0)
	x.wantSteal(got, math.MaxInt64, 6)
	x.wantSteal(empty, 0, 2)
	x.wantPush(3, 6)
	a, _ = x.steal()
	x.goOn(a, 5)
	x.wantPop(got, 3, 8)
	x.wantStep(a, lost, 0)
	x.wantPush(4, 6)
	a, _ = x.steal()
	x.goOn(a, 1) // top is as it is read; the value goes, and another one comes
	x.wantSteal(got, 4, 6)
	x.wantPush(5, 6)
	x.goOn(a, 4)
	x.wantStep(a, lost, 0)
	x.wantSteal(got, 5, 6)
	a, _ = x.steal()
	x.goOn(a, 1)
	x.wantStep(a, empty, 0)
}

// TestStealOld (P16.3): a steal that read where, or how many places there are, ahead of a growth: what it steals stands in the old places.
func TestStealOld(t *testing.T) {
	for ahead := range 6 {
		y := newMemory(t, 0)
		x := y.deque(1)
		x.wantPush(1, 6)
		x.wantPush(2, 6)
		s, _ := x.steal()
		x.goOn(s, ahead)
		x.wantPush(3, 12)
		x.wantPush(4, 6)
		x.wantPush(5, 16)
		c, v, n := x.whole(s, 0)
		if c != got || v != 1 || n+ahead != 6 {
			t.Error(ahead, c, v, n)
		}
		for i := 5; i > 1; i-- {
			z, e := x.pop()
			if c, v, _ := x.whole(z, e); c != got || v != int64(i) {
				t.Error(ahead, i, c, v)
			}
		}
	}
}

// TestFull (P16.3): where there is no room to grow, nothing is done, again and again; the others go on.
func TestFull(t *testing.T) {
	for room := range 7 { // cells behind a deque of two places: to grow takes five
		y := newMemory(t, mostCells-6-room)
		x := y.deque(1)
		x.wantPush(1, 6)
		x.wantPush(2, 6)
		p, _ := x.push(3)
		x.goOn(p, 4)
		if room >= 5 {
			x.wantWhole(p, 0, done, 0, 8)
			x.wantPop(got, 3, 6)
			continue
		}
		for range 3 {
			if c, v, e := x.step(p); c != 0 || v != 0 || e != errFull {
				t.Fatal("Step:", c, v, e)
			}
			x.wantPushRefused()
			if c, v := p.a.Told(); c != goes || v != 0 {
				t.Fatal("Told:", c, v)
			}
		}
		x.wantSteal(got, 1, 6)
		if _, _, e := x.step(p); e != errFull {
			t.Fatal("Step, behind a steal:", e)
		}
		x.wantSteal(got, 2, 6)
		x.wantSteal(empty, 0, 2)
		y.end()
	}
}

// TestMost (P16.3, P16.4): the most places that a memory has room for: one more value than that is refused; all are got.
func TestMost(t *testing.T) {
	m := cell.New()
	d, _ := New(m, mostLog)
	var n int64
	for full := false; !full; {
		a, _ := d.Push(n + 1)
		c, e := goes, api.OK
		for c == goes && e == 0 {
			c, _, e = a.Step()
		}
		full = e == errFull
		if !full {
			n++
		}
	}
	if n != 1<<15 || d.Size() != 1<<15 { // 2^16 places more are more than what is left
		t.Error("values:", n, d.Size())
	}
	for i := range n {
		s, _ := d.Steal()
		for range 5 {
			s.Step()
		}
		if c, v, e := s.Step(); c != got || v != i+1 || e != 0 {
			t.Fatal(i, c, v, e)
		}
	}
}

// TestOver (P16.3): an act that is over stays what it came to, whatever comes behind it.
func TestOver(t *testing.T) {
	y := newMemory(t, 0)
	x := y.deque(0)
	x.wantPush(6, 6)
	a, _ := x.steal()
	b, _ := x.steal()
	x.goOn(a, 5)
	x.whole(b, 0)
	x.whole(a, 0)
	x.wantPush(7, 6)
	x.wantPop(got, 7, 8)
	x.wantPop(empty, 0, 5)
	x.wantSteal(empty, 0, 2)
	want := []struct {
		c uint8
		v int64
	}{{done, 0}, {lost, 0}, {got, 6}, {done, 0}, {got, 7}, {empty, 0}, {empty, 0}}
	for range 3 {
		for i, z := range y.acts {
			if c, v := z.a.Told(); c != want[i].c || v != want[i].v {
				t.Error("Told:", i, c, v)
			}
			if c, v, e := x.step(z); c != 0 || v != 0 || e != errState {
				t.Error("Step:", i, c, v, e)
			}
		}
		x.wantPush(1, 6)
		x.wantPop(got, 1, 8)
		y.acts = y.acts[:7]
	}
}

// TestNil (R3): of nil, and of what no call made.
func TestNil(t *testing.T) {
	for i, d := range []*Deque{nil, {}, new(Deque)} {
		for range 2 {
			a, e := d.Push(1)
			b, f := d.Pop()
			c, g := d.Steal()
			if a != nil || b != nil || c != nil || e != errNil || f != errNil || g != errNil || d.Size() != 0 {
				t.Error(i, a, b, c, e, f, g, d.Size())
			}
		}
	}
	for i, a := range []*Act{nil, {}, new(Act)} {
		for range 2 {
			c, v, e := a.Step()
			if c != 0 || v != 0 || e != errNil {
				t.Error("Step:", i, c, v, e)
			}
			if c, v := a.Told(); c != goes || v != 0 {
				t.Error("Told:", i, c, v)
			}
		}
	}
}

// TestWritten (R1): cells that others write: nothing panics; where there is no such cell, the memory's error is told, nothing is done, and the step may be tried again.
func TestWritten(t *testing.T) {
	numbers := []int64{0, -1, 1, 2, 3, 5, math.MinInt64, math.MaxInt64, math.MinInt64 + 1, 1 << 40, mostCells, -mostCells, 1 << 62}
	for at := range 7 {
		for _, v := range numbers {
			for _, begin := range []func(*Deque) (*Act, api.Errno){func(d *Deque) (*Act, api.Errno) { return d.Push(4) }, (*Deque).Pop, (*Deque).Steal} {
				for ahead := range 9 {
					m := cell.New()
					d, _ := New(m, 0)
					for i := range 2 {
						a, _ := d.Push(int64(i + 1))
						for c := goes; c == goes; {
							c, _, _ = a.Step()
						}
					}
					a, _ := begin(d)
					for range ahead {
						a.Step()
					}
					m.Store(at, v)
					for range 40 {
						was, n := m.Steps(), m.Len()
						c, x, e := a.Step()
						if e != 0 && (c != 0 || x != 0 || m.Steps() != was || m.Len() != n) {
							t.Fatal("an error, and more:", e, c, x)
						}
						if e != 0 && e != errNone && e != errFull && e != errState {
							t.Fatal("Step:", e)
						}
					}
					if d.Size() < 0 {
						t.Fatal("Size:", d.Size())
					}
				}
			}
		}
	}
}

// two is a deque of four places with the values 1 and 2, as others may write on it.
func two(t *testing.T) (*cell.Mem, *Deque) {
	t.Helper()
	m := cell.New()
	d, _ := New(m, 2)
	for i := range 2 {
		a, _ := d.Push(int64(i + 1))
		for range 6 {
			a.Step()
		}
	}
	if m.Len() != 8 || d.Size() != 2 {
		t.Fatal(m.Len(), d.Size())
	}
	return m, d
}

// wantNone holds that the act's next step finds no cell, and does nothing.
func wantNone(t *testing.T, m *cell.Mem, a *Act) {
	t.Helper()
	for range 3 {
		was, n := m.Steps(), m.Len()
		if c, v, e := a.Step(); c != 0 || v != 0 || e != errNone || m.Steps() != was || m.Len() != n {
			t.Fatal("Step:", c, v, e, m.Steps()-was, m.Len()-n)
		}
		if c, v := a.Told(); c != goes || v != 0 {
			t.Fatal("Told:", c, v)
		}
	}
}

// TestMended (R1, R2): a step that found no cell, since others wrote, is done once there is one.
func TestMended(t *testing.T) {
	for _, k := range []struct {
		begin func(*Deque) (*Act, api.Errno)
		count int // so many steps ahead of asking how many places there are
		place int // so many ahead of the place
		steps int
		want  uint8
		value int64
	}{
		{func(d *Deque) (*Act, api.Errno) { return d.Push(3) }, 3, 4, 6, done, 0},
		{(*Deque).Pop, 4, 5, 6, got, 32},
		{(*Deque).Steal, 3, 4, 6, got, 31},
	} {
		finish := func(a *Act, n int) {
			t.Helper()
			for range n - 1 {
				if c, v, e := a.Step(); c != goes || v != 0 || e != 0 {
					t.Fatal("Step:", c, v, e)
				}
			}
			if c, v, e := a.Step(); c != k.want || v != k.value || e != 0 {
				t.Fatal("the last step:", c, v, e)
			}
		}
		m, d := two(t)
		m.Store(2, 10)
		a, _ := k.begin(d)
		for range k.count {
			a.Step()
		}
		wantNone(t, m, a)
		m.More(0, 0, 8, 31, 32, 33) // the cell 10 and some behind it
		finish(a, k.steps-k.count)
		m, d = two(t)
		m.More(31, 31) // the cells 8 and 9
		m.Store(2, 9)
		a, _ = k.begin(d)
		for range k.place {
			a.Step()
		}
		wantNone(t, m, a)
		m.More(31, 32, 33)
		finish(a, k.steps-k.place)
	}
}

// TestNoPlaces (R1): others wrote that there are no places, or fewer than none: nothing stands in them.
func TestNoPlaces(t *testing.T) {
	for _, count := range []int64{0, -1, -4, math.MinInt64} {
		for i, begin := range []func(*Deque) (*Act, api.Errno){func(d *Deque) (*Act, api.Errno) { return d.Push(3) }, (*Deque).Pop, (*Deque).Steal} {
			m, d := two(t)
			m.Store(3, count)
			a, _ := begin(d)
			for range []int{5, 5, 4}[i] { // a push makes room ahead of it
				if c, _, e := a.Step(); c != goes || e != 0 {
					t.Fatal("Step:", c, e)
				}
			}
			wantNone(t, m, a)
		}
		m, d := two(t)
		m.Store(0, 2) // a push has nothing to copy
		m.Store(3, count)
		a, _ := d.Push(3)
		for range 6 {
			a.Step()
		}
		wantNone(t, m, a)
	}
}

// TestManyPlaces (R1): others wrote that there are more places, and more values, than any memory has: there is no room for twice as many.
func TestManyPlaces(t *testing.T) {
	for _, count := range []int64{mostCells, mostCells + 1, 1 << 40, 1 << 61, 1 << 62, math.MaxInt64} {
		m, d := two(t)
		m.Store(3, count)
		m.Store(1, math.MaxInt64)
		a, _ := d.Push(3)
		for range 4 {
			a.Step()
		}
		for range 3 {
			if c, v, e := a.Step(); c != 0 || v != 0 || e != errFull || m.Len() != 8 {
				t.Error("Step:", c, v, e, m.Len())
			}
		}
	}
}

// wantSize (P16.1): what Size tells, by no step, and by changing no cell.
func wantSize(t *testing.T, m *cell.Mem, d *Deque, want int) {
	t.Helper()
	was, n := m.Steps(), m.Len()
	for range 2 {
		if k := d.Size(); k != want || m.Steps() != was || m.Len() != n {
			t.Errorf("Size: %d, want %d; %d steps", k, want, m.Steps()-was)
		}
	}
}

// TestSizeWritten (P16.1): top and bottom as they are now, by whatever call of the memory, and whoever wrote them last, the deque's acts or others.
func TestSizeWritten(t *testing.T) {
	m := cell.New()
	d, _ := New(m, 2)
	wantSize(t, m, d, 0)
	for _, c := range []struct {
		at   int
		v    int64
		size int
	}{{1, 3, 3}, {0, 2, 1}, {0, 3, 0}, {0, 4, 0}, {1, 11, 7}, {0, -4, 15}, {1, -4, 0}, {1, -1, 3}, {0, math.MaxInt64, 0}, {1, math.MaxInt64, 0}, {0, 1, math.MaxInt64 - 1}, {0, 0, math.MaxInt64}} {
		if e := m.Store(c.at, c.v); e != 0 {
			t.Fatal("Store:", e)
		}
		wantSize(t, m, d, c.size)
	}
	for _, v := range []int64{-1, -9, math.MinInt64} { // bottom less top is more than an int can be
		m.Store(0, v)
		wantSize(t, m, d, math.MaxInt64)
	}
	for _, v := range []int64{1, 9, math.MaxInt64} { // bottom less top goes round to something above 0, but is below it
		m.Store(0, v)
		m.Store(1, math.MinInt64)
		wantSize(t, m, d, 0)
	}
	m.Store(0, 5)
	m.Store(1, 8)
	if is, e := m.Swap(0, 5, 6); !is || e != 0 {
		t.Fatal("Swap:", is, e)
	}
	wantSize(t, m, d, 2)
	if is, e := m.Swap(0, 5, 7); is || e != 0 {
		t.Fatal("Swap:", is, e)
	}
	wantSize(t, m, d, 2)
	for at := 2; at < m.Len(); at++ { // no other cell counts
		m.Store(at, 100)
		wantSize(t, m, d, 2)
	}
}

// TestSizeActs (P16.1): others write while acts are under way; what these read ahead of it doesn't count, but what they write then does.
func TestSizeActs(t *testing.T) {
	m, d := two(t)
	p, _ := d.Push(3)
	s, _ := d.Steal()
	for range 5 {
		p.Step()
		s.Step()
	}
	wantSize(t, m, d, 2)
	m.Store(1, 9)
	wantSize(t, m, d, 9)
	if c, _, e := p.Step(); c != done || e != 0 {
		t.Fatal("Step of the push:", c, e)
	}
	wantSize(t, m, d, 3)
	m.Store(0, 1)
	wantSize(t, m, d, 2)
	if c, _, e := s.Step(); c != lost || e != 0 {
		t.Fatal("Step of the steal:", c, e)
	}
	wantSize(t, m, d, 2)
	m.Store(0, -3)
	m.Store(1, 4)
	wantSize(t, m, d, 7)
}

// TestSizeTwo (P16.1): each deque of a memory tells its own cells; a deque that was never used does, too.
func TestSizeTwo(t *testing.T) {
	m := cell.New()
	m.More(50, 60, 70)
	a, _ := New(m, 0)
	b, _ := New(m, 1) // behind the five cells of the first one
	m.Store(4, 6)
	m.Store(9, 4)
	m.Store(8, 1)
	m.Store(1, 1000)
	wantSize(t, m, a, 6)
	wantSize(t, m, b, 3)
}

// TestFar (P16.3): a push goes by how far bottom and top are apart, whatever others wrote: far below is no reason to grow.
func TestFar(t *testing.T) {
	m, d := two(t)
	m.Store(0, 1)
	m.Store(1, math.MinInt64)
	n := m.Len()
	a, _ := d.Push(3)
	for i := range 6 {
		if c, _, e := a.Step(); e != 0 || (c == done) != (i == 5) {
			t.Fatal("Step:", i, c, e)
		}
	}
	if v, _ := m.Load(1); v != math.MinInt64+1 || m.Len() != n {
		t.Error("bottom, and cells:", v, m.Len()-n)
	}
	m.Store(0, math.MinInt64)
	m.Store(1, math.MaxInt64)
	a, _ = d.Push(3)
	for range 5 { // it grows by the fifth
		if c, _, e := a.Step(); c != goes || e != 0 {
			t.Fatal("Step:", c, e)
		}
	}
	if m.Len() != n+9 {
		t.Error("cells:", m.Len()-n)
	}
}

// TestBelow (P16.3): places below 0, where others wrote them, are told modulo, too.
func TestBelow(t *testing.T) {
	m, d := two(t)
	m.Store(0, -3)
	m.Store(1, 4)
	m.Store(5, 77) // the place 1: -3 modulo 4
	a, _ := d.Steal()
	for range 5 {
		a.Step()
	}
	if c, v, e := a.Step(); c != got || v != 77 || e != 0 {
		t.Error("Step:", c, v, e)
	}
	wantSize(t, m, d, 6)
}

// TestAlone (P16.4): alone, the owner has a stack; alone, thieves have a queue.
func TestAlone(t *testing.T) {
	r := rand.New(rand.NewSource(16))
	for log := range 4 {
		y := newMemory(t, 0)
		x := y.deque(log)
		var stack []int64
		for i := range 300 {
			if r.Intn(5) < 3 {
				z, e := x.push(int64(i))
				x.whole(z, e)
				stack = append(stack, int64(i))
				continue
			}
			z, e := x.pop()
			c, v, _ := x.whole(z, e)
			if n := len(stack); n == 0 && c != empty || n > 0 && (c != got || v != stack[n-1]) {
				t.Fatal("a stack:", i, c, v)
			}
			stack = stack[:max(0, len(stack)-1)]
		}
		for len(x.left) > 0 {
			x.wantSteal(got, x.left[0], 6)
		}
		x.wantSteal(empty, 0, 2)
	}
}

// drain ends all acts, and pops till there is nothing: all that was pushed was got by then, just once.
func (y *memory) drain() {
	y.t.Helper()
	for i := 0; i < len(y.acts); i++ {
		for !y.acts[i].over() {
			if _, _, e := y.all[0].owns(i).step(y.acts[i]); e != 0 {
				y.t.Fatal("Step:", e)
			}
		}
	}
	for _, x := range y.all {
		for {
			z, e := x.pop()
			if c, _, _ := x.whole(z, e); c == empty {
				break
			}
		}
		if len(x.left) != 0 || x.d.Size() != 0 {
			y.t.Fatal("nobody got", x.left)
		}
	}
}

// owns is the pair that the act of that number is one of.
func (x *pair) owns(i int) *pair {
	for _, z := range x.all {
		if z.d.row == x.acts[i].a.act.row {
			return z
		}
	}
	return nil
}

// actor does acts, one behind the other; mark is all that it goes on by.
type actor struct {
	begin []func() (both, api.Errno)
	now   both
	at, n int
}

func (a *actor) over() bool {
	return a.at == len(a.begin) && (a.now.a == nil || a.now.over())
}

func (a *actor) step(x *pair) {
	if a.now.a == nil || a.now.over() {
		a.now, _ = a.begin[a.at]()
		a.at, a.n = a.at+1, 0
	}
	x.step(a.now)
	a.n++
}

func (a *actor) mark() string {
	if a.now.a == nil {
		return "none"
	}
	k := a.now.a.act
	return fmt.Sprint(a.at, a.n, k.places, k.top, k.bottom, k.value, k.came, k.got)
}

// TestEach (P16.4): each order in which the steps of an owner and of thieves can come; two ways to one state are gone on from once.
func TestEach(t *testing.T) {
	for _, c := range []struct {
		ahead int    // values that were there
		owner string // u push, o pop
		thief []int  // how many steals each one does
	}{
		{1, "o", []int{1, 1}}, {2, "oo", []int{1, 1}}, {2, "o", []int{2, 1}}, {0, "uo", []int{1, 1}}, {1, "uoo", []int{1, 1}},
		{2, "ou", []int{2, 1}}, {3, "ooo", []int{1, 1}}, {1, "ou", []int{1, 1}}, {0, "uuo", []int{2}}, {2, "ooouo", []int{2}}, {1, "o", []int{1, 1, 1}},
	} {
		seen, marks, ends := map[string]bool{}, 0, 0
		run := func(order []int) (string, []int) {
			y := newMemory(t, 0)
			defer y.end()
			x := y.deque(0)
			y.quiet = true
			for i := range c.ahead {
				z, e := x.push(int64(i + 1))
				x.whole(z, e)
			}
			y.acts = nil
			actors := []*actor{{}}
			for i, o := range c.owner {
				if o == 'o' {
					actors[0].begin = append(actors[0].begin, x.pop)
				} else {
					actors[0].begin = append(actors[0].begin, func() (both, api.Errno) { return x.push(int64(10 + i)) })
				}
			}
			for _, n := range c.thief {
				actors = append(actors, &actor{begin: slices.Repeat([]func() (both, api.Errno){x.steal}, n)})
			}
			for k, i := range order {
				y.quiet = k < len(order)-1 // what came ahead was held already
				actors[i].step(x)
			}
			mark, next := fmt.Sprint(y.w.cells, x.left), []int(nil)
			for i, a := range actors {
				mark += " / " + a.mark()
				if !a.over() {
					next = append(next, i)
				}
			}
			if next == nil {
				ends++
				y.drain()
			}
			return mark, next
		}
		orders := [][]int{nil}
		for len(orders) > 0 {
			o := orders[len(orders)-1]
			orders = orders[:len(orders)-1]
			mark, next := run(o)
			if seen[mark] {
				continue
			}
			seen[mark] = true
			marks++
			for _, i := range next {
				orders = append(orders, append(slices.Clone(o), i))
			}
		}
		if ends == 0 || marks < 50 {
			t.Error("states:", c, marks, ends)
		}
	}
}

// steps does what the bytes say, on one or two deques of a memory, and holds each call against the chapter's words.
func steps(t *testing.T, script []byte) {
	t.Helper()
	next := func() int {
		if len(script) == 0 {
			return 0
		}
		b := script[0]
		script = script[1:]
		return int(b)
	}
	y := newMemory(t, next()%5)
	defer y.end()
	for range 1 + next()%2 {
		y.deque(next() % 3)
	}
	for n := int64(1); len(script) > 0; n++ {
		x := y.all[next()%len(y.all)]
		switch next() % 16 {
		case 0, 1:
			x.push(n)
		case 2:
			x.pop()
		case 3, 4:
			x.steal()
		case 5, 6:
			if z, e := x.push(n); e == 0 {
				x.whole(z, e)
			}
		case 7:
			x.wantSomeSteal()
		case 8:
			if z, e := x.pop(); e == 0 {
				x.whole(z, e)
			}
		default:
			for range 1 + next()%6 {
				if len(y.acts) > 0 {
					i := len(y.acts) - 1 - next()%min(8, len(y.acts))
					x.owns(i).step(y.acts[i])
				}
			}
		}
	}
	y.drain()
}

// wantSomeSteal does a steal, whole: it is not lost, since nobody comes between.
func (x *pair) wantSomeSteal() {
	x.t.Helper()
	z, e := x.steal()
	if c, _, _ := x.whole(z, e); c == lost {
		x.t.Fatal("a steal that nobody was ahead of was lost")
	}
}

// TestDrawn (P16.1 to P16.4): acts that are drawn, and their steps, in an order that is drawn.
func TestDrawn(t *testing.T) {
	r := rand.New(rand.NewSource(1616))
	for range 1500 {
		script := make([]byte, r.Intn(500))
		r.Read(script)
		steps(t, script)
	}
}

// FuzzDeque (P16.1 to P16.4): any acts, in any order of steps.
func FuzzDeque(f *testing.F) {
	f.Add([]byte{0, 0, 0, 0, 5, 0, 5, 0, 3, 0, 9, 4, 0, 0, 0, 0, 0, 0, 8, 0, 2, 0, 9, 3, 0, 0, 0, 0, 0, 9, 0, 1})
	f.Add([]byte{1, 1, 0, 1, 5, 1, 5, 0, 5, 0, 5, 0, 5, 0, 7, 1, 7, 0, 8, 0, 8})
	f.Fuzz(func(t *testing.T, script []byte) {
		if len(script) > 600 {
			return
		}
		steps(t, script)
	})
}

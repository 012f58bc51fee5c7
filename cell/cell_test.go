package cell

import (
	"math"
	"math/rand"
	"slices"
	"testing"

	"thresher/api"
)

// The chapter's numbers, as it has them.
const (
	most    = 65536
	errNil  = api.Errno(1)
	errNone = api.Errno(5)
	errFull = api.Errno(6)
)

// plain is a memory by the chapter's words: cells by their numbers, and a list of all steps.
type plain struct {
	cells map[int]int64
	steps []int
}

func (p *plain) more(values []int64) (int, api.Errno) {
	first := len(p.cells)
	if first+len(values) > most {
		return 0, errFull
	}
	for _, v := range values {
		p.cells[len(p.cells)] = v
	}
	return first, 0
}

func (p *plain) step(at int) (int64, api.Errno) {
	v, is := p.cells[at]
	if !is {
		return 0, errNone
	}
	p.steps = append(p.steps, at)
	return v, 0
}

// pair is a memory, and what the chapter says of it.
type pair struct {
	t *testing.T
	m *Mem
	p *plain
}

func newPair(t *testing.T) pair { return pair{t, New(), &plain{cells: map[int]int64{}}} }

// hold holds what there is, and what was done, against the chapter's words.
func (y pair) hold() {
	y.t.Helper()
	if n, s := y.m.Len(), y.m.Steps(); n != len(y.p.cells) || s != len(y.p.steps) {
		y.t.Fatalf("Len, Steps: %d, %d, want %d, %d", n, s, len(y.p.cells), len(y.p.steps))
	}
}

func (y pair) more(values ...int64) (int, api.Errno) {
	y.t.Helper()
	was := slices.Clone(values)
	at, e := y.m.More(values...)
	if want, we := y.p.more(was); at != want || e != we {
		y.t.Fatalf("More of %d: %d, %d, want %d, %d", len(values), at, e, want, we)
	}
	if !slices.Equal(values, was) {
		y.t.Fatal("More changed its argument")
	}
	y.hold()
	return at, e
}

func (y pair) load(at int) (int64, api.Errno) {
	y.t.Helper()
	y.peek(at)
	v, e := y.m.Load(at)
	if want, we := y.p.step(at); v != want || e != we {
		y.t.Fatalf("Load(%d): %d, %d, want %d, %d", at, v, e, want, we)
	}
	y.hold()
	return v, e
}

// peek is no step: nothing is done by the chapter's words.
func (y pair) peek(at int) (int64, api.Errno) {
	y.t.Helper()
	v, e := y.m.Peek(at)
	want, is := y.p.cells[at]
	we := api.OK
	if !is {
		we = errNone
	}
	if v != want || e != we {
		y.t.Fatalf("Peek(%d): %d, %d, want %d, %d", at, v, e, want, we)
	}
	y.hold()
	return v, e
}

func (y pair) store(at int, v int64) api.Errno {
	y.t.Helper()
	e := y.m.Store(at, v)
	_, we := y.p.step(at)
	if e != we {
		y.t.Fatalf("Store(%d): %d, want %d", at, e, we)
	}
	if we == 0 {
		y.p.cells[at] = v
	}
	y.hold()
	return e
}

func (y pair) swap(at int, old, v int64) (bool, api.Errno) {
	y.t.Helper()
	is, e := y.m.Swap(at, old, v)
	was, we := y.p.step(at)
	want := we == 0 && was == old
	if is != want || e != we {
		y.t.Fatalf("Swap(%d, %d, %d) of %d: %v, %d, want %v, %d", at, old, v, was, is, e, want, we)
	}
	if want {
		y.p.cells[at] = v
	}
	y.hold()
	return is, e
}

// all holds each cell, and its neighbours that are not there, against the chapter's words.
func (y pair) all() {
	y.t.Helper()
	for at := -1; at <= len(y.p.cells); at++ {
		y.load(at)
	}
}

// TestNumbers (P15.1, R7): the numbers of the chapter's words are those of api.
func TestNumbers(t *testing.T) {
	if api.MaxCells != most || api.ErrNil != errNil || api.ErrNone != errNone || api.ErrFull != errFull {
		t.Error(api.MaxCells, api.ErrNil, api.ErrNone, api.ErrFull)
	}
}

// TestExamples (P15.1, P15.2): the chapter's example.
func TestExamples(t *testing.T) {
	m := New()
	if at, e := m.More(7, 8); at != 0 || e != 0 {
		t.Error("More:", at, e)
	}
	if is, e := m.Swap(1, 8, 9); !is || e != 0 {
		t.Error("Swap:", is, e)
	}
	if is, e := m.Swap(1, 8, 9); is || e != 0 {
		t.Error("Swap again:", is, e)
	}
	if v, e := m.Load(1); v != 9 || e != 0 {
		t.Error("Load:", v, e)
	}
	if n := m.Steps(); n != 3 {
		t.Error("Steps:", n)
	}
}

// TestNew (P15.1): no cells, no steps; each one has its own.
func TestNew(t *testing.T) {
	a, b := New(), New()
	if a.Len() != 0 || a.Steps() != 0 {
		t.Error(a.Len(), a.Steps())
	}
	a.More(1, 2)
	a.Store(0, 5)
	if b.Len() != 0 || b.Steps() != 0 {
		t.Error("of another one:", b.Len(), b.Steps())
	}
	if v, e := b.Load(0); v != 0 || e != errNone {
		t.Error("of another one:", v, e)
	}
}

// TestMore (P15.1): the first one's number is how many there were, and all come behind it, in order.
func TestMore(t *testing.T) {
	y := newPair(t)
	for i, l := range [][]int64{nil, {4}, {}, {5, 6, 5}, nil, {math.MinInt64, math.MaxInt64, -1, 0}} {
		at, e := y.more(l...)
		if want := []int{0, 0, 1, 1, 4, 4}[i]; at != want || e != 0 {
			t.Errorf("More %d: %d, %d, want %d", i, at, e, want)
		}
	}
	for i, want := range []int64{4, 5, 6, 5, math.MinInt64, math.MaxInt64, -1, 0} {
		if v, e := y.load(i); v != want || e != 0 {
			t.Errorf("Load(%d): %d, %d, want %d", i, v, e, want)
		}
	}
	if n := y.m.Steps(); n != 8 {
		t.Error("cells that are made were counted:", n)
	}
}

// TestFull (P15.1): MaxCells, and one more, by one call and by many.
func TestFull(t *testing.T) {
	y := newPair(t)
	if at, e := y.more(make([]int64, most+1)...); at != 0 || e != errFull {
		t.Error("one too many:", at, e)
	}
	if at, e := y.more(make([]int64, most)...); at != 0 || e != 0 {
		t.Error("all:", at, e)
	}
	if at, e := y.more(); at != most || e != 0 {
		t.Error("none, to all:", at, e)
	}
	if at, e := y.more(1); at != 0 || e != errFull {
		t.Error("one, to all:", at, e)
	}
	y.store(most-1, 3)
	y.store(most, 3)
	y = newPair(t)
	for i := range most - 2 {
		y.more(int64(i) * 3)
	}
	if at, e := y.more(1, 2, 3); at != 0 || e != errFull {
		t.Error("three, to all but two:", at, e)
	}
	if at, e := y.more(1, 2); at != most-2 || e != 0 {
		t.Error("two, to all but two:", at, e)
	}
	y.all()
}

// TestNone (P15.2): cells that are not there; nothing is counted, and nothing changes.
func TestNone(t *testing.T) {
	y := newPair(t)
	for range 3 {
		for _, at := range []int{-1, y.m.Len(), y.m.Len() + 1, most, math.MinInt, math.MaxInt, math.MinInt32, 1 << 32} {
			if v, e := y.load(at); v != 0 || e != errNone {
				t.Error("Load:", at, v, e)
			}
			if e := y.store(at, 7); e != errNone {
				t.Error("Store:", at, e)
			}
			for _, old := range []int64{0, 7} {
				if is, e := y.swap(at, old, 7); is || e != errNone {
					t.Error("Swap:", at, is, e)
				}
			}
		}
		if n := y.m.Steps(); n != 0 {
			t.Error("Steps:", n)
		}
		y.m.More(0)
		y.p.more([]int64{0})
	}
	for at := range 3 {
		if v, e := y.load(at); v != 0 || e != 0 {
			t.Error("changed:", at, v, e)
		}
	}
}

// TestSteps (P15.2): what each one does to its cell, and that it does nothing to others; each is one step, a Swap that is answered false among them.
func TestSteps(t *testing.T) {
	y := newPair(t)
	y.more(1, 1, 1)
	y.store(1, 5)
	y.store(1, 5)
	y.swap(1, 1, 6)
	y.swap(1, 5, 5)
	if is, _ := y.swap(1, 5, math.MinInt64); !is {
		t.Error("Swap: false")
	}
	if is, _ := y.swap(1, math.MaxInt64, 6); is {
		t.Error("Swap: true")
	}
	if v, _ := y.load(1); v != math.MinInt64 {
		t.Error("Load:", v)
	}
	if n := y.m.Steps(); n != 7 {
		t.Error("Steps:", n)
	}
	for _, at := range []int{0, 2} {
		if v, _ := y.load(at); v != 1 {
			t.Error("another cell:", at, v)
		}
	}
}

// TestPeek (P15.2): it tells what a cell holds, behind each step and ahead of the next one, and is none.
func TestPeek(t *testing.T) {
	y := newPair(t)
	for _, at := range []int{-1, 0, 1, math.MinInt, math.MaxInt} {
		if v, e := y.peek(at); v != 0 || e != errNone {
			t.Error("of no cells:", at, v, e)
		}
	}
	y.more(4, math.MinInt64)
	y.store(0, 7)
	y.swap(0, 7, math.MaxInt64)
	y.swap(0, 7, 1)
	for range 3 {
		for at, want := range []int64{math.MaxInt64, math.MinInt64} {
			if v, e := y.peek(at); v != want || e != 0 {
				t.Error("Peek:", at, v, e)
			}
		}
		if v, e := y.peek(2); v != 0 || e != errNone {
			t.Error("of none:", v, e)
		}
	}
	if n := y.m.Steps(); n != 3 {
		t.Error("Steps:", n)
	}
}

// TestOnce (P15.3): of many Swaps from one old value one is answered true; one more, once that value is there again.
func TestOnce(t *testing.T) {
	y := newPair(t)
	y.more(0, 9)
	for round := range 3 {
		won := 0
		for i := range 20 {
			if is, _ := y.swap(1, 9, int64(10+i+round)); is {
				won++
			}
		}
		if v, _ := y.load(1); won != 1 || v != int64(10+round) {
			t.Errorf("round %d: %d were answered true, and it holds %d", round, won, v)
		}
		y.store(1, 9)
	}
}

// TestNil (R3): of nil, and of what New did not make.
func TestNil(t *testing.T) {
	for i, m := range []*Mem{nil, {}, new(Mem)} {
		for range 2 {
			for _, l := range [][]int64{nil, {1}, make([]int64, most+1)} {
				if at, e := m.More(l...); at != 0 || e != errNil {
					t.Error(i, "More:", at, e)
				}
			}
			for _, at := range []int{0, -1, most} {
				v, e := m.Load(at)
				is, ee := m.Swap(at, 0, 1)
				if p, ep := m.Peek(at); p != 0 || ep != errNil {
					t.Error(i, "Peek:", p, ep)
				}
				if v != 0 || e != errNil || is || ee != errNil || m.Store(at, 1) != errNil {
					t.Error(i, "steps:", v, e, is, ee)
				}
			}
			if m.Len() != 0 || m.Steps() != 0 {
				t.Error(i, m.Len(), m.Steps())
			}
		}
	}
}

// TestKept (R5): what was handed in is not kept, and not changed.
func TestKept(t *testing.T) {
	m, l := New(), make([]int64, 3, 8)
	copy(l, []int64{1, 2, 3})
	m.More(l...)
	clear(l)
	m.More(4)
	m.Store(0, 9)
	for at, want := range []int64{9, 2, 3, 4} {
		if v, _ := m.Load(at); v != want {
			t.Errorf("Load(%d): %d, want %d", at, v, want)
		}
	}
	if !slices.Equal(l[:8], make([]int64, 8)) {
		t.Error("changed:", l[:8])
	}
}

// steps does what the bytes say, one call behind the other, and holds each against the chapter's words.
func steps(y pair, script []byte) {
	y.t.Helper()
	next := func() int {
		if len(script) == 0 {
			return 0
		}
		b := script[0]
		script = script[1:]
		return int(b)
	}
	number := func() int64 { return []int64{0, 1, 2, -1, math.MaxInt64, math.MinInt64, 3, 255}[next()%8] }
	for len(script) > 0 {
		at := next()%(y.m.Len()+2) - 1
		switch next() % 8 {
		case 0:
			var l []int64
			for range next() % 4 {
				l = append(l, number())
			}
			y.more(l...)
		case 1, 2:
			y.load(at)
		case 3, 4:
			y.store(at, number())
		case 5:
			y.swap(at, number(), number())
		default:
			y.swap(at, y.p.cells[at], number())
		}
	}
	y.all()
}

// TestDrawn (P15.1 to P15.3, R6): calls that are drawn, one behind the other, twice the same.
func TestDrawn(t *testing.T) {
	r := rand.New(rand.NewSource(15))
	for range 1000 {
		script := make([]byte, r.Intn(400))
		r.Read(script)
		a, b := newPair(t), newPair(t)
		steps(a, script)
		steps(b, script)
		if a.m.Len() != b.m.Len() || a.m.Steps() != b.m.Steps() {
			t.Fatal("the same calls made two sorts of memories")
		}
	}
}

// FuzzMem (P15.1 to P15.3): any calls, one behind the other.
func FuzzMem(f *testing.F) {
	f.Add([]byte{0, 0, 2, 3, 4, 2, 5, 6, 6, 2, 5, 6, 6, 2, 1})
	f.Add([]byte{0, 0, 1, 1, 0, 3, 4, 1, 6, 2, 0, 1})
	f.Fuzz(func(t *testing.T, script []byte) { steps(newPair(t), script) })
}

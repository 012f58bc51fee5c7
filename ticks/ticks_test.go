package ticks

import (
	"math"
	"math/rand"
	"reflect"
	"slices"
	"sort"
	"strconv"
	"strings"
	"testing"
	"unsafe"

	"thresher/api"
)

const (
	last   = 1 << 44 // the greatest tick
	most   = 1 << 10 // timers
	keyMax = 64      // bytes of a key
)

// long is a key that has a byte too many.
var long = strings.Repeat("k", keyMax+1)

// plainTimers is a clock and timers as the chapter's words tell them: no order is kept, all is looked for.
type plainTimers struct {
	now int64
	l   []api.Timer
}

// find is where the timer of a key stands; below 0, if there is none.
func (p *plainTimers) find(key string) int {
	for i, x := range p.l {
		if x.Key == key {
			return i
		}
	}
	return -1
}

func (p *plainTimers) set(key string, at int64) api.Errno {
	if len(key) > keyMax {
		return api.ErrLong
	}
	if at <= p.now || at > last {
		return api.ErrArg
	}
	i := p.find(key)
	if i < 0 && len(p.l) == most {
		return api.ErrFull
	}
	if i >= 0 {
		p.l = slices.Delete(p.l, i, i+1)
	}
	p.l = append(p.l, api.Timer{Key: key, At: at})
	return api.OK
}

func (p *plainTimers) stop(keys ...string) (n int) {
	for _, k := range keys {
		if i := p.find(k); i >= 0 {
			p.l = slices.Delete(p.l, i, i+1)
			n++
		}
	}
	return n
}

func (p *plainTimers) next() (api.Timer, bool) {
	if len(p.l) == 0 {
		return api.Timer{}, false
	}
	first := p.l[0]
	for _, x := range p.l {
		if x.At < first.At || x.At == first.At && string(x.Key) < first.Key {
			first = x
		}
	}
	return first, true
}

func (p *plainTimers) tick(by int64) (l []api.Timer, e api.Errno) {
	if by < 0 || by > last {
		return nil, api.ErrArg
	}
	if p.now+by > last {
		return nil, api.ErrOver
	}
	p.now += by
	for {
		x, is := p.next()
		if !is || x.At > p.now {
			return l, api.OK
		}
		l = append(l, x)
		p.stop(x.Key)
	}
}

func (p *plainTimers) all() []api.Timer {
	l := slices.Clone(p.l)
	sort.Slice(l, func(i, j int) bool { return l[i].Key < l[j].Key })
	return l
}

// pair is timers, and what they should be.
type pair struct {
	t *testing.T
	x *Timers
	p *plainTimers
}

func newPair(t *testing.T) pair {
	t.Helper()
	y := pair{t, New(), &plainTimers{}}
	y.same("New")
	return y
}

// same holds all that timers tell of themselves against what it should be.
func (y pair) same(what string) {
	y.t.Helper()
	if n := y.x.Now(); n != y.p.now {
		y.t.Fatalf("%s: Now: %d, want %d", what, n, y.p.now)
	}
	x, is := y.x.Next()
	if w, wantIs := y.p.next(); x != w || is != wantIs {
		y.t.Fatalf("%s: Next: %v, %v; want %v, %v", what, x, is, w, wantIs)
	}
	if l, w := y.x.All(), y.p.all(); !slices.Equal(l, w) {
		y.t.Fatalf("%s: All: %v, want %v", what, l, w)
	}
}

func (y pair) set(key string, at int64) api.Errno {
	y.t.Helper()
	e, w := y.x.Set(key, at), y.p.set(key, at)
	if e != w {
		y.t.Fatalf("Set(%q, %d): %v, want %v", key, at, e, w)
	}
	y.same("Set")
	return e
}

func (y pair) stop(keys ...string) int {
	y.t.Helper()
	n, w := y.x.Stop(keys...), y.p.stop(keys...)
	if n != w {
		y.t.Fatalf("Stop(%q): %d, want %d", keys, n, w)
	}
	y.same("Stop")
	return n
}

func (y pair) tick(by int64) ([]api.Timer, api.Errno) {
	y.t.Helper()
	l, e := y.x.Tick(by)
	w, wantE := y.p.tick(by)
	if !slices.Equal(l, w) || e != wantE {
		y.t.Fatalf("Tick(%d): %v, %v; want %v, %v", by, l, e, w, wantE)
	}
	y.same("Tick")
	return l, e
}

// want holds an error against what is wanted.
func want(t *testing.T, what string, e, wanted api.Errno) {
	t.Helper()
	if e != wanted {
		t.Errorf("%s: %v, want %v", what, e, wanted)
	}
}

// ticked wants that a Tick goes well, and tells just these timers.
func ticked(t *testing.T, x *Timers, by int64, wanted ...api.Timer) {
	t.Helper()
	if l, e := x.Tick(by); e != api.OK || !slices.Equal(l, wanted) {
		t.Errorf("Tick(%d): %v, %v; want %v", by, l, e, wanted)
	}
}

// key is one of many, of which none is another one's beginning.
func key(i int) string { return strconv.Itoa(10000 + i) }

// full is a pair with as many timers as there may be, of the keys from key(0) on, due at drawn ticks from 1 to 99.
func full(t *testing.T) pair {
	t.Helper()
	r := rand.New(rand.NewSource(3))
	y := pair{t, New(), &plainTimers{}}
	for i := range most {
		at := 1 + r.Int63n(99)
		want(t, "Set", y.x.Set(key(i), at), api.OK)
		y.p.set(key(i), at)
	}
	y.same("full")
	return y
}

// TestExamples: the chapter's, as they stand there.
func TestExamples(t *testing.T) {
	x := New()
	want(t, "Set(a, 5)", x.Set("a", 5), api.OK)
	want(t, "Set(b, 3)", x.Set("b", 3), api.OK)
	want(t, "Set(a, 4)", x.Set("a", 4), api.OK)
	ticked(t, x, 3, api.Timer{Key: "b", At: 3})
	if n, is := x.Next(); !is || n != (api.Timer{Key: "a", At: 4}) {
		t.Errorf("Next: %v, %v", n, is)
	}
	if n := x.Stop("a", "a", "x"); n != 1 {
		t.Errorf("Stop: %d", n)
	}
	ticked(t, x, 9)
}

// TestLimits: those that stand in api are the ones that these tests go by.
func TestLimits(t *testing.T) {
	if api.MaxTick != last || api.MaxTimers != most || api.MaxKey != keyMax {
		t.Errorf("limits: %d, %d, %d", int64(api.MaxTick), api.MaxTimers, api.MaxKey)
	}
}

// TestNew (P8.1, R6): a clock at 0, no timers; two have nothing in common.
func TestNew(t *testing.T) {
	a, b := newPair(t), newPair(t)
	a.set("a", 5)
	a.tick(3)
	b.same("another one")
	b.set("a", 1)
	b.tick(1)
	a.same("another one")
}

// TestNone (R3): of no timers, and of some that New did not make, nothing is told, and nothing is done; that is asked ahead of all else.
func TestNone(t *testing.T) {
	for _, x := range []*Timers{nil, {}, new(Timers)} {
		for range 2 {
			for _, k := range []string{"", "a", long} {
				for _, n := range []int64{-1, 0, 1, last, last + 1, math.MinInt64, math.MaxInt64} {
					want(t, "Set", x.Set(k, n), api.ErrNil)
					if l, e := x.Tick(n); len(l) != 0 || e != api.ErrNil {
						t.Errorf("Tick(%d): %v, %v", n, l, e)
					}
				}
				if n := x.Stop(k, k); n != 0 {
					t.Errorf("Stop: %d", n)
				}
			}
			n, is := x.Next()
			if x.Now() != 0 || n != (api.Timer{}) || is || len(x.All()) != 0 || x.Stop() != 0 {
				t.Errorf("no timers: %d, %v, %v, %v", x.Now(), n, is, x.All())
			}
		}
	}
}

// TestCalls (R1, R3): timers have just the calls that the chapter lists, so that none of their heap's can be called.
func TestCalls(t *testing.T) {
	var names []string
	for m := range reflect.TypeFor[*Timers]().Methods() {
		names = append(names, m.Name)
	}
	if !slices.Equal(names, []string{"All", "Next", "Now", "Set", "Stop", "Tick"}) {
		t.Errorf("timers' calls: %q", names)
	}
}

// TestSetKey (P8.1): keys of all lengths that there may be, and of any bytes; those that have more change nothing.
func TestSetKey(t *testing.T) {
	y := newPair(t)
	for n := range keyMax + 1 {
		want(t, "Set", y.set(long[:n], 5), api.OK)
		want(t, "Set", y.set(strings.Repeat("\x00", n), 6), api.OK)
		want(t, "Set", y.set(strings.Repeat("\xff", n), 4), api.OK)
	}
	for _, n := range []int{keyMax + 1, keyMax + 2, 2 * keyMax, 1 << 16} {
		want(t, "Set, too long", y.set(strings.Repeat("k", n), 5), api.ErrLong)
	}
	y.tick(4)
	y.tick(1)
	y.tick(1)
	if len(y.x.All()) != 0 {
		t.Errorf("left: %v", y.x.All())
	}
}

// TestSetAt (P8.1): at each tick that the clock may show, just those above it, up to the greatest, can be set.
func TestSetAt(t *testing.T) {
	for _, now := range []int64{0, 1, 2, 1000, last / 2, last - 2, last - 1, last} {
		y := newPair(t)
		y.tick(now)
		for _, at := range []int64{math.MinInt64, -last, -1, 0, 1, now - 1, now, now + 1, now + 2, last - 1, last, last + 1, 2 * last, math.MaxInt64} {
			wanted := api.ErrArg
			if at > now && at <= last {
				wanted = api.OK
			}
			want(t, "Set", y.set("a", at), wanted)
			want(t, "Set", y.set("b"+strconv.FormatInt(at, 10), at), wanted)
		}
	}
}

// TestSetAnew (P8.1, P8.3): of each key there is one timer, due when it was set last, be that earlier, later or the same.
func TestSetAnew(t *testing.T) {
	for _, older := range []int64{2, 4, 5, 6, 9} {
		x := New()
		for i, k := range []string{"a", "b", "c", "d", "e"} {
			want(t, "Set", x.Set(k, int64(3+i)), api.OK)
		}
		want(t, "Set", x.Set("z", older), api.OK)
		want(t, "Set anew", x.Set("z", 5), api.OK)
		if l := x.All(); len(l) != 6 || l[5] != (api.Timer{Key: "z", At: 5}) {
			t.Errorf("All: %v", l)
		}
		ticked(t, x, 4, api.Timer{Key: "a", At: 3}, api.Timer{Key: "b", At: 4})
		ticked(t, x, 1, api.Timer{Key: "c", At: 5}, api.Timer{Key: "z", At: 5})
		want(t, "Set once told", x.Set("z", 6), api.OK)
		ticked(t, x, 9, api.Timer{Key: "d", At: 6}, api.Timer{Key: "z", At: 6}, api.Timer{Key: "e", At: 7})
		ticked(t, x, 9)
	}
}

// TestFull (P8.1): as many timers as there may be; one of another key is refused, one of a key that is there is not.
func TestFull(t *testing.T) {
	y := full(t)
	for range 2 {
		want(t, "Set, one too many", y.set("x", 5), api.ErrFull)
		want(t, "Set, one too many", y.set("", 1), api.ErrFull)
		for _, i := range []int{0, 1, most / 2, most - 1} {
			want(t, "Set, full, there", y.set(key(i), 50), api.OK)
			want(t, "Set, full, there", y.set(key(i), last), api.OK)
		}
	}
	if n := y.stop("x", key(7)); n != 1 {
		t.Errorf("Stop: %d", n)
	}
	want(t, "Set behind a Stop", y.set("x", 5), api.OK)
	want(t, "Set, one too many", y.set(key(7), 5), api.ErrFull)
	l, e := y.tick(1)
	if e != api.OK || len(l) == 0 {
		t.Fatalf("Tick(1): %v, %v", l, e)
	}
	for i := range l {
		want(t, "Set behind a Tick", y.set("y"+key(i), 5), api.OK)
	}
	want(t, "Set, one too many", y.set("z", 5), api.ErrFull)
}

// TestOrder (R2): of several errors the one that is named first, which changes nothing.
func TestOrder(t *testing.T) {
	y := full(t)
	y.tick(0)
	want(t, "Set, too long, no such tick, full", y.set(long, 0), api.ErrLong)
	want(t, "Set, too long, full", y.set(long, 5), api.ErrLong)
	want(t, "Set, no such tick, full", y.set("x", 0), api.ErrArg)
	want(t, "Set, no such tick, full", y.set("x", last+1), api.ErrArg)
	want(t, "Set, no such tick, there", y.set(key(0), 0), api.ErrArg)
	want(t, "Set, full", y.set("x", 5), api.ErrFull)
	z := newPair(t)
	z.set("a", last)
	z.tick(1)
	for _, by := range []int64{last + 1, math.MaxInt64, -1, math.MinInt64} {
		if l, e := z.tick(by); len(l) != 0 || e != api.ErrArg {
			t.Errorf("Tick(%d): %v, %v", by, l, e)
		}
	}
	if l, e := z.tick(last); len(l) != 0 || e != api.ErrOver {
		t.Errorf("Tick(MaxTick) at 1: %v, %v", l, e)
	}
}

// TestStop (P8.1): just those of these keys go, each once; keys that none has, and none at all, do nothing.
func TestStop(t *testing.T) {
	for _, keys := range [][]string{
		nil, {}, {"x"}, {""}, {long}, {"a"}, {"a", "a"}, {"a", "a", "x"}, {"d", "a"}, {"aa"}, {"a\x00"}, {"A"},
		{"a", "b", "c", "d", "e"}, {"e", "d", "c", "b", "a", "e"}, {"x", "c", long, "c"}, slices.Repeat([]string{"b", "y"}, 1000),
	} {
		kept := slices.Clone(keys)
		y := newPair(t)
		for i, k := range []string{"d", "a", "e", "c", "b"} {
			y.set(k, int64(9-i))
		}
		y.stop(keys...)
		if !slices.Equal(keys, kept) {
			t.Errorf("Stop changed its keys: %q, were %q", keys, kept)
		}
		if n := y.stop(keys...); n != 0 {
			t.Errorf("Stop(%q) again: %d", keys, n)
		}
		y.set("a", 7)
		y.tick(6)
		y.tick(9)
		y.stop("a", "b", "c", "d", "e")
	}
	y := newPair(t)
	if n := y.stop("a", ""); n != 0 {
		t.Errorf("Stop of none: %d", n)
	}
}

// TestStopEach (P8.1): whichever one of many goes, all others are told as they were due.
func TestStopEach(t *testing.T) {
	const n = 24
	r := rand.New(rand.NewSource(4))
	for range 20 {
		var at [n]int64
		for i := range at {
			at[i] = 1 + r.Int63n(12)
		}
		for gone := range n {
			y := newPair(t)
			for i := range n {
				y.set(key(i), at[i])
			}
			y.stop(key(gone))
			for range 12 {
				y.tick(1)
			}
		}
	}
}

// TestStopMany (P8.1): keys may be handed in far more often than there are timers.
func TestStopMany(t *testing.T) {
	y := full(t)
	keys := make([]string, 0, 1<<20)
	for i := range 1 << 20 {
		keys = append(keys, key(i%(2*most)))
	}
	if n := y.x.Stop(keys...); n != most || len(y.x.All()) != 0 {
		t.Errorf("Stop of %d keys: %d", len(keys), n)
	}
}

// TestNext (P8.2): by ticks first, whatever the keys; of one tick by keys, byte by byte, where a beginning is less.
func TestNext(t *testing.T) {
	rising := []api.Timer{
		{Key: "z", At: 1}, {Key: "", At: 2}, {Key: "\x00", At: 2}, {Key: "\x00\x00", At: 2}, {Key: "A", At: 2}, {Key: "B", At: 2},
		{Key: "a", At: 2}, {Key: "a\x00", At: 2}, {Key: "aB", At: 2}, {Key: "aa", At: 2}, {Key: "b", At: 2}, {Key: "\x7f", At: 2},
		{Key: "\x80", At: 2}, {Key: "\xc3\xa9", At: 2}, {Key: "\xff", At: 2}, {Key: "10", At: 9}, {Key: "9", At: 9}, {Key: "0", At: 10}, {Key: "!", At: last},
	}
	r := rand.New(rand.NewSource(5))
	for range 200 {
		x := New()
		for _, i := range r.Perm(len(rising)) {
			want(t, "Set", x.Set(rising[i].Key, rising[i].At), api.OK)
		}
		for _, w := range rising {
			for range 2 {
				if n, is := x.Next(); n != w || !is {
					t.Fatalf("Next: %v, %v; want %v", n, is, w)
				}
			}
			x.Stop(w.Key)
		}
		if n, is := x.Next(); n != (api.Timer{}) || is {
			t.Errorf("Next of none: %v, %v", n, is)
		}
		for _, i := range r.Perm(len(rising)) {
			x.Set(rising[i].Key, rising[i].At)
		}
		ticked(t, x, last, rising...)
	}
}

// TestTickEdges (P8.2): how far a clock goes on, and what it does not take; which changes nothing.
func TestTickEdges(t *testing.T) {
	for _, now := range []int64{0, 1, 2, last / 2, last - 1, last} {
		for _, by := range []int64{math.MinInt64, -last, -2, -1, 0, 1, last/2 - 1, last / 2, last/2 + 1, last - now - 1, last - now, last - now + 1, last - 1, last, last + 1, 2 * last, math.MaxInt64} {
			y := newPair(t)
			y.tick(now)
			y.set("a", now+1)
			y.set("b", last)
			wanted := api.OK
			switch {
			case by < 0 || by > last:
				wanted = api.ErrArg
			case by > last-now:
				wanted = api.ErrOver
			}
			if l, e := y.tick(by); e != wanted || e != api.OK && (len(l) != 0 || y.x.Now() != now) {
				t.Errorf("Tick(%d) at %d: %v, %v", by, now, l, e)
			}
		}
	}
}

// TestTickDue (P8.2, P8.3): each timer is told with the first Tick that comes to its tick or beyond, never ahead, and just once.
func TestTickDue(t *testing.T) {
	for _, at := range []int64{1, 2, 5, 6, 7, 100, last - 1, last} {
		for _, by := range []int64{0, 1, 2, 3, 6, 99, last / 3, last / 2, last - 1, last} {
			y := newPair(t)
			y.set("a", at)
			told := 0
			for range 9 {
				ahead := y.x.Now()
				l, e := y.tick(by)
				due := e == api.OK && ahead < at && at <= y.x.Now()
				if due != (len(l) == 1) {
					t.Errorf("at %d, from %d to %d: %v, %v", at, ahead, y.x.Now(), l, e)
				}
				told += len(l)
			}
			if told > 1 || told == 1 != (at <= y.x.Now()) {
				t.Errorf("at %d, now %d: told %d times", at, y.x.Now(), told)
			}
		}
	}
}

// TestTickMany (P8.2, P8.3): of as many timers as there may be, by steps of any size, all are told, in order, once.
func TestTickMany(t *testing.T) {
	for _, by := range []int64{0, 1, 2, 3, 7, 50, 99, 100, last} {
		y := full(t)
		wanted := y.p.all()
		sort.SliceStable(wanted, func(i, j int) bool { return wanted[i].At < wanted[j].At })
		if by == 0 {
			ticked(t, y.x, 0)
			continue
		}
		var l []api.Timer
		for len(l) < most && y.x.Now() < 100 {
			more, _ := y.x.Tick(by)
			for _, x := range more {
				if x.At > y.x.Now() || x.At <= y.x.Now()-by {
					t.Errorf("told at %d: %v", y.x.Now(), x)
				}
			}
			l = append(l, more...)
		}
		if !slices.Equal(l, wanted) || len(y.x.All()) != 0 {
			t.Errorf("by %d: %v, want %v", by, l, wanted)
		}
	}
}

// TestTickAfter (P8.3): what was stopped, or set anew, is not told as it was ahead of that; what was told can be set again.
func TestTickAfter(t *testing.T) {
	x := New()
	x.Set("a", 3)
	x.Set("b", 3)
	x.Set("c", 3)
	x.Set("d", 3)
	x.Stop("a")
	x.Set("b", 8)
	x.Set("c", 2)
	ticked(t, x, 2, api.Timer{Key: "c", At: 2})
	ticked(t, x, 1, api.Timer{Key: "d", At: 3})
	x.Set("d", 4)
	x.Set("a", 5)
	ticked(t, x, 3, api.Timer{Key: "d", At: 4}, api.Timer{Key: "a", At: 5})
	ticked(t, x, 1)
	ticked(t, x, 1, api.Timer{Key: "b", At: 8})
	ticked(t, x, last-8)
}

// inside tells whether a text stands in another one's memory.
func inside(text, s string) bool {
	at, from := uintptr(unsafe.Pointer(unsafe.StringData(text))), uintptr(unsafe.Pointer(unsafe.StringData(s)))
	return at >= from && at < from+uintptr(len(s))
}

// TestNewMemory (R5): no key that is handed in is kept; what was told stays as it was, and stands nowhere else.
func TestNewMemory(t *testing.T) {
	x := New()
	text := strings.Repeat("abcdefgh", 8)
	for i := range 8 {
		x.Set(text[i:i+8], int64(1+i))
	}
	var keys []string
	note := func(l ...api.Timer) {
		for _, y := range l {
			keys = append(keys, y.Key)
		}
	}
	a, b := x.All(), x.All()
	was := slices.Clone(a)
	note(a...)
	note(b...)
	n, _ := x.Next()
	m, _ := x.Next()
	l, _ := x.Tick(5)
	note(n, m)
	note(l...)
	note(x.All()...)
	for i, k := range keys {
		if inside(k, text) {
			t.Errorf("%q is a piece of what was handed in", k)
		}
		for _, other := range keys[:i] {
			if inside(k, other) {
				t.Errorf("%q is told twice, in the same memory", k)
			}
		}
	}
	told := slices.Clone(l)
	x.Set(text[:8], 9)
	if !slices.Equal(a, was) || !slices.Equal(b, was) || !slices.Equal(l, told) {
		t.Error("what was told changed")
	}
	left := x.All()
	for i := range b {
		a[i], b[i] = api.Timer{}, api.Timer{}
	}
	for _, y := range [][]api.Timer{l, x.All()} {
		clear(y)
	}
	if got := x.All(); !slices.Equal(got, left) {
		t.Errorf("All: %v, was %v", got, left)
	}
}

// drawnKeys are keys that differ in little.
var drawnKeys = []string{"", "\x00", "a", "a\x00", "aa", "ab", "b", "B", "\x7f", "\x80", "\xff", "\xff\xff", "key", long[:keyMax-1], long[:keyMax], long, "kk", "0", "00", "1"}

// steps does what the bytes say, one call behind the other, and holds each against the chapter's words.
func steps(y pair, script []byte) {
	y.t.Helper()
	next := func() int {
		if len(script) == 0 {
			return 0
		}
		b := script[0]
		script = script[1:]
		return int(b)
	}
	for len(script) > 0 {
		switch next() % 12 {
		default:
			y.set(drawnKeys[next()%len(drawnKeys)], y.x.Now()+int64(next()%24)-1)
		case 0:
			y.set(drawnKeys[next()%len(drawnKeys)], last+int64(next()%4)-2)
		case 1, 2:
			var keys []string
			for range next() % 5 {
				keys = append(keys, drawnKeys[next()%len(drawnKeys)])
			}
			y.stop(keys...)
		case 3, 4, 5:
			y.tick(int64(next()%8) - 1)
		case 6:
			y.tick(last - y.x.Now() - int64(next()%64) + 1)
		}
	}
}

// TestDrawn (P8.1 to P8.3, R6): calls that are drawn, one behind the other, twice the same.
func TestDrawn(t *testing.T) {
	r := rand.New(rand.NewSource(6))
	for range 1500 {
		script := make([]byte, r.Intn(500))
		r.Read(script)
		a, b := newPair(t), newPair(t)
		steps(a, script)
		steps(b, script)
		if a.x.Now() != b.x.Now() || !slices.Equal(a.x.All(), b.x.All()) {
			t.Fatal("the same calls made two sorts of timers")
		}
	}
}

// TestDrawnMany (P8.1 to P8.3): calls that are drawn, on many timers.
func TestDrawnMany(t *testing.T) {
	r := rand.New(rand.NewSource(7))
	y := full(t)
	for range 2000 {
		switch r.Intn(8) {
		default:
			y.set(key(r.Intn(most+200)), y.x.Now()+1+r.Int63n(99))
		case 0, 1:
			y.stop(key(r.Intn(most+200)), key(r.Intn(most+200)))
		case 2:
			y.tick(r.Int63n(3))
		}
	}
}

// FuzzTimers (P8.1 to P8.3): any calls, one behind the other.
func FuzzTimers(f *testing.F) {
	f.Add([]byte{7, 2, 6, 7, 6, 4, 7, 2, 5, 3, 4, 1, 3, 2, 2, 0, 3, 7})
	f.Add([]byte{0, 0, 2, 6, 1, 6, 2, 3, 2})
	f.Fuzz(func(t *testing.T, script []byte) { steps(newPair(t), script) })
}

package gram

import (
	"math"
	"math/rand"
	"reflect"
	"slices"
	"strconv"
	"strings"
	"testing"
	"unsafe"

	"thresher/api"
)

const (
	most   = 1 << 12 // messages on their way
	beyond = 1 << 10 // the first number behind all places
	longer = 1 << 14 // bytes of the longest text
)

// long is a text that has a byte too many.
var long = strings.Repeat("t", longer+1)

// notPlaces are numbers that are no places.
var notPlaces = []int{-1, -2, -beyond, beyond, beyond + 1, 2 * beyond, 1 << 32, math.MinInt64, math.MaxInt64}

// plainNet is a net as the chapter's words tell it: messages in a row as they were sent, and for each way whether it is cut.
type plainNet struct {
	numbers uint64
	row     []api.Gram
	cut     [][2]int
}

func isPlace(x int) bool { return 0 <= x && x <= 1023 }

func (p *plainNet) find(id uint64) int {
	for i, x := range p.row {
		if x.ID == id {
			return i
		}
	}
	return -1
}

func (p *plainNet) add(from, to int, text string) uint64 {
	p.numbers++
	p.row = append(p.row, api.Gram{ID: p.numbers, From: from, To: to, Text: text})
	return p.numbers
}

func (p *plainNet) send(from int, text string, to ...int) (int, api.Errno) {
	all := isPlace(from)
	for _, x := range to {
		all = all && isPlace(x)
	}
	if !all {
		return 0, api.ErrArg
	}
	if len(text) > longer {
		return 0, api.ErrLong
	}
	if len(p.row)+len(to) > most {
		return 0, api.ErrFull
	}
	for _, x := range to {
		p.add(from, x, text)
	}
	return len(to), api.OK
}

func (p *plainNet) isCut(a, b int) bool { return slices.Contains(p.cut, [2]int{a, b}) }

func (p *plainNet) take(id uint64) (api.Gram, api.Errno) {
	i := p.find(id)
	if i < 0 {
		return api.Gram{}, api.ErrNone
	}
	x := p.row[i]
	if p.isCut(x.From, x.To) {
		return api.Gram{}, api.ErrCut
	}
	p.row = slices.Delete(p.row, i, i+1)
	return x, api.OK
}

func (p *plainNet) drop(ids ...uint64) (n int) {
	for _, id := range ids {
		if i := p.find(id); i >= 0 {
			p.row = slices.Delete(p.row, i, i+1)
			n++
		}
	}
	return n
}

func (p *plainNet) double(id uint64) (uint64, api.Errno) {
	i := p.find(id)
	if i < 0 {
		return 0, api.ErrNone
	}
	if len(p.row) == most {
		return 0, api.ErrFull
	}
	x := p.row[i]
	return p.add(x.From, x.To, x.Text), api.OK
}

func (p *plainNet) setCut(a, b int, cut bool) api.Errno {
	if !isPlace(a) || !isPlace(b) {
		return api.ErrArg
	}
	p.cut = slices.DeleteFunc(p.cut, func(w [2]int) bool { return w == [2]int{a, b} })
	if cut {
		p.cut = append(p.cut, [2]int{a, b})
	}
	return api.OK
}

func (p *plainNet) ready() (l []uint64) {
	for _, x := range p.row {
		if !p.isCut(x.From, x.To) {
			l = append(l, x.ID)
		}
	}
	return l
}

// pair is a net, and what it should be.
type pair struct {
	t *testing.T
	x *Net
	p *plainNet
}

func newPair(t *testing.T) pair {
	t.Helper()
	y := pair{t, New(), &plainNet{}}
	y.same("New")
	return y
}

// same holds all that a net tells of itself against what it should be.
func (y pair) same(what string) {
	y.t.Helper()
	if l := y.x.List(); !slices.Equal(l, y.p.row) {
		y.t.Fatalf("%s: List: %v, want %v", what, l, y.p.row)
	}
	if l, w := y.x.Ready(), y.p.ready(); !slices.Equal(l, w) {
		y.t.Fatalf("%s: Ready: %v, want %v", what, l, w)
	}
}

func (y pair) send(from int, text string, to ...int) api.Errno {
	y.t.Helper()
	kept := slices.Clone(to)
	n, e := y.x.Send(from, text, to...)
	if w, wantE := y.p.send(from, text, kept...); n != w || e != wantE {
		y.t.Fatalf("Send(%d, %d bytes, %v): %d, %v; want %d, %v", from, len(text), kept, n, e, w, wantE)
	}
	if !slices.Equal(to, kept) {
		y.t.Fatalf("Send changed its places: %v, were %v", to, kept)
	}
	y.same("Send")
	return e
}

func (y pair) take(id uint64) (api.Gram, api.Errno) {
	y.t.Helper()
	x, e := y.x.Take(id)
	if w, wantE := y.p.take(id); x != w || e != wantE {
		y.t.Fatalf("Take(%d): %v, %v; want %v, %v", id, x, e, w, wantE)
	}
	y.same("Take")
	return x, e
}

func (y pair) drop(ids ...uint64) int {
	y.t.Helper()
	kept := slices.Clone(ids)
	n := y.x.Drop(ids...)
	if w := y.p.drop(kept...); n != w {
		y.t.Fatalf("Drop(%v): %d, want %d", kept, n, w)
	}
	if !slices.Equal(ids, kept) {
		y.t.Fatalf("Drop changed its numbers: %v, were %v", ids, kept)
	}
	y.same("Drop")
	return n
}

func (y pair) double(id uint64) (uint64, api.Errno) {
	y.t.Helper()
	n, e := y.x.Double(id)
	if w, wantE := y.p.double(id); n != w || e != wantE {
		y.t.Fatalf("Double(%d): %d, %v; want %d, %v", id, n, e, w, wantE)
	}
	y.same("Double")
	return n, e
}

func (y pair) cut(a, b int) api.Errno {
	y.t.Helper()
	e := y.x.Cut(a, b)
	if w := y.p.setCut(a, b, true); e != w {
		y.t.Fatalf("Cut(%d, %d): %v, want %v", a, b, e, w)
	}
	y.same("Cut")
	return e
}

func (y pair) heal(a, b int) api.Errno {
	y.t.Helper()
	e := y.x.Heal(a, b)
	if w := y.p.setCut(a, b, false); e != w {
		y.t.Fatalf("Heal(%d, %d): %v, want %v", a, b, e, w)
	}
	y.same("Heal")
	return e
}

// want holds an error against what is wanted.
func want(t *testing.T, what string, e, wanted api.Errno) {
	t.Helper()
	if e != wanted {
		t.Errorf("%s: %v, want %v", what, e, wanted)
	}
}

// some is a pair that has messages on ways to and fro, and to the sender itself: numbers 1 to 6.
func some(t *testing.T) pair {
	t.Helper()
	y := newPair(t)
	y.send(0, "a", 1, 2)
	y.send(1, "b", 0)
	y.send(2, "c", 2)
	y.send(1, "", 2, 0)
	return y
}

// full is a pair with as many messages on their way as there may be.
func full(t *testing.T) pair {
	t.Helper()
	y := newPair(t)
	to := make([]int, most)
	for i := range to {
		to[i] = i % 7
	}
	want(t, "Send to MaxGrams", y.send(3, "x", to...), api.OK)
	return y
}

// TestExamples: the chapter's, as they stand there.
func TestExamples(t *testing.T) {
	x := New()
	if n, e := x.Send(0, "a", 1, 2); n != 2 || e != api.OK {
		t.Errorf("Send(0, a, 1, 2): %d, %v", n, e)
	}
	if id, e := x.Double(1); id != 3 || e != api.OK {
		t.Errorf("Double(1): %d, %v", id, e)
	}
	if n := x.Drop(1, 9); n != 1 {
		t.Errorf("Drop(1, 9): %d", n)
	}
	if g, e := x.Take(3); g != (api.Gram{ID: 3, From: 0, To: 1, Text: "a"}) || e != api.OK {
		t.Errorf("Take(3): %v, %v", g, e)
	}
	if g, e := x.Take(3); g != (api.Gram{}) || e != api.ErrNone {
		t.Errorf("Take(3) again: %v, %v", g, e)
	}
	want(t, "Cut(0, 1)", x.Cut(0, 1), api.OK)
	if n, e := x.Send(0, "b", 1); n != 1 || e != api.OK {
		t.Errorf("Send(0, b, 1): %d, %v", n, e)
	}
	if n, e := x.Send(1, "c", 0); n != 1 || e != api.OK {
		t.Errorf("Send(1, c, 0): %d, %v", n, e)
	}
	if l := x.Ready(); !slices.Equal(l, []uint64{2, 5}) {
		t.Errorf("Ready: %v", l)
	}
}

// TestLimits: those that stand in api are the ones that these tests go by.
func TestLimits(t *testing.T) {
	if api.MaxGrams != most || api.MaxPlace != beyond || api.MaxGram != longer || api.ErrCut != 90 {
		t.Errorf("limits: %d, %d, %d, %d", api.MaxGrams, api.MaxPlace, api.MaxGram, api.ErrCut)
	}
}

// TestNew (P9.1, R6): nothing on its way, nothing cut; two have nothing in common.
func TestNew(t *testing.T) {
	a, b := newPair(t), newPair(t)
	a.send(0, "a", 1, 2)
	a.cut(0, 3)
	b.same("another one")
	b.send(0, "b", 3)
	b.double(1)
	b.cut(0, 1)
	b.take(1)
	a.same("another one")
	a.take(1)
	b.same("another one")
}

// TestNewWays (P9.1): of a new net's ways none is cut.
func TestNewWays(t *testing.T) {
	x := New()
	for a := range beyond {
		to := []int{a, 0, (a + 1) % beyond, beyond - 1, beyond / 2}
		x.Send(a, "a", to...)
		l := x.Ready()
		if len(l) != len(to) {
			t.Fatalf("from %d: Ready: %v", a, l)
		}
		x.Drop(l...)
	}
}

// TestNone (R3): of no net, and of one that New did not make, nothing is told, and nothing is done; that is asked ahead of all else.
func TestNone(t *testing.T) {
	for _, x := range []*Net{nil, {}, new(Net)} {
		for range 2 {
			for _, k := range append([]int{0, 1, beyond - 1}, notPlaces...) {
				for _, s := range []string{"", "a", long} {
					if n, e := x.Send(k, s, k); n != 0 || e != api.ErrNil {
						t.Errorf("Send(%d): %d, %v", k, n, e)
					}
				}
				want(t, "Cut", x.Cut(k, k), api.ErrNil)
				want(t, "Heal", x.Heal(k, k), api.ErrNil)
				if g, e := x.Take(uint64(k)); g != (api.Gram{}) || e != api.ErrNil {
					t.Errorf("Take(%d): %v, %v", k, g, e)
				}
				if id, e := x.Double(uint64(k)); id != 0 || e != api.ErrNil {
					t.Errorf("Double(%d): %d, %v", k, id, e)
				}
				if n := x.Drop(uint64(k), 1); n != 0 {
					t.Errorf("Drop(%d): %d", k, n)
				}
			}
			if n, e := x.Send(0, ""); n != 0 || e != api.ErrNil || x.Drop() != 0 || len(x.Ready()) != 0 || len(x.List()) != 0 {
				t.Errorf("no net: %d, %v, %v, %v", n, e, x.Ready(), x.List())
			}
		}
	}
}

// TestCalls (R1, R3): a net has just the calls that the chapter lists.
func TestCalls(t *testing.T) {
	var names []string
	for m := range reflect.TypeFor[*Net]().Methods() {
		names = append(names, m.Name)
	}
	if !slices.Equal(names, []string{"Cut", "Double", "Drop", "Heal", "List", "Ready", "Send", "Take"}) {
		t.Errorf("a net's calls: %q", names)
	}
}

// TestSend (P9.1): to none, to one, to many, to one twice, to the sender itself: a message to each, in order.
func TestSend(t *testing.T) {
	for _, to := range [][]int{nil, {}, {0}, {1}, {beyond - 1}, {2, 1}, {1, 2, 1}, {5, 5, 5, 5}, {0, beyond - 1, 0, 7}} {
		for _, from := range []int{0, 1, 5, beyond - 1} {
			y := newPair(t)
			want(t, "Send", y.send(from, "a", to...), api.OK)
			want(t, "Send", y.send(from, "b", to...), api.OK)
			l := y.x.List()
			if len(l) != 2*len(to) {
				t.Errorf("Send(%v) twice: %v", to, l)
			}
			for i, x := range l {
				if x.ID != uint64(i+1) || x.From != from || x.To != to[i%len(to)] {
					t.Errorf("Send(%v): %v", to, l)
				}
			}
		}
	}
}

// TestSendPlaces (P9.1): from and each of to must be places; one that is none, wherever it stands, has nothing sent, and uses up no number.
func TestSendPlaces(t *testing.T) {
	y := some(t)
	for _, bad := range notPlaces {
		want(t, "Send, no such place to", y.send(0, "a", bad), api.ErrArg)
		want(t, "Send, no such place first", y.send(0, "a", bad, 1, 2), api.ErrArg)
		want(t, "Send, no such place between", y.send(0, "a", 1, bad, 2), api.ErrArg)
		want(t, "Send, no such place last", y.send(0, "a", 1, 2, bad), api.ErrArg)
		want(t, "Send, no such place from", y.send(bad, "a", 1), api.ErrArg)
		want(t, "Send, no such place from, to none", y.send(bad, "a"), api.ErrArg)
		want(t, "Send, no such places", y.send(bad, "a", bad), api.ErrArg)
	}
	want(t, "Send", y.send(0, "a", 1), api.OK)
	if l := y.x.List(); len(l) != 7 || l[6].ID != 7 {
		t.Errorf("List: %v", l)
	}
	for k := range beyond {
		want(t, "Send", y.send(k, "", beyond-1-k), api.OK)
		y.drop(uint64(k + 1))
	}
}

// TestSendText (P9.1): texts of any bytes, of no more than there may be; those that have more change nothing.
func TestSendText(t *testing.T) {
	y := newPair(t)
	for _, s := range []string{"", "\x00", "\xff\xfe", "a\x00b", long[:longer-1], long[:longer], strings.Repeat("\x00", longer)} {
		want(t, "Send", y.send(0, s, 1, 0), api.OK)
	}
	for _, n := range []int{longer + 1, longer + 2, 2 * longer, 1 << 20} {
		want(t, "Send, too long", y.send(0, strings.Repeat("t", n), 1), api.ErrLong)
		want(t, "Send, too long, to none", y.send(0, strings.Repeat("t", n)), api.ErrLong)
	}
	for id := range uint64(14) {
		y.take(14 - id)
	}
	if len(y.x.List()) != 0 {
		t.Errorf("left: %d", len(y.x.List()))
	}
}

// TestSendFull (P9.1): as many messages on their way as there may be; one call that would make more has none sent.
func TestSendFull(t *testing.T) {
	y := full(t)
	for range 2 {
		want(t, "Send, full", y.send(0, "a", 1), api.ErrFull)
		want(t, "Send, full", y.send(0, "a", 1, 2), api.ErrFull)
		want(t, "Send, full, to none", y.send(0, "a"), api.OK)
	}
	y.drop(1, 2, most)
	want(t, "Send, one too many", y.send(0, "a", 1, 2, 3, 4), api.ErrFull)
	want(t, "Send, one less", y.send(0, "a", 1, 2), api.OK)
	want(t, "Send, one too many", y.send(0, "b", 1, 2), api.ErrFull)
	want(t, "Send, the last", y.send(0, "b", 1), api.OK)
	want(t, "Send, full", y.send(0, "b", 1), api.ErrFull)
	y.take(5)
	want(t, "Send behind a Take", y.send(0, "c", 1), api.OK)
	want(t, "Send, full", y.send(0, "c", 1), api.ErrFull)
	if l := y.x.List(); l[most-1].ID != most+4 {
		t.Errorf("the last number: %d", l[most-1].ID)
	}
	if n, e := New().Send(0, "a", make([]int, most+1)...); n != 0 || e != api.ErrFull {
		t.Errorf("Send to MaxGrams + 1: %d, %v", n, e)
	}
	if n, e := New().Send(0, "a", make([]int, 1<<22)...); n != 0 || e != api.ErrFull {
		t.Errorf("Send to very many: %d, %v", n, e)
	}
}

// TestOrder (R2): of several errors the one that is named first, which changes nothing.
func TestOrder(t *testing.T) {
	y := full(t)
	want(t, "Send, no such place, too long, full", y.send(-1, long, 1), api.ErrArg)
	want(t, "Send, no such place, too long, full", y.send(1, long, beyond), api.ErrArg)
	want(t, "Send, no such place behind many", y.send(1, long, append(make([]int, most+1), -1)...), api.ErrArg)
	want(t, "Send, too long, full", y.send(1, long, 1), api.ErrLong)
	want(t, "Send, full", y.send(1, "a", 1), api.ErrFull)
	for _, id := range []uint64{0, most + 1, math.MaxUint64} {
		_, e := y.double(id)
		want(t, "Double, none, full", e, api.ErrNone)
	}
	_, e := y.double(1)
	want(t, "Double, full", e, api.ErrFull)
	y.cut(3, 0)
	_, e = y.take(most + 1)
	want(t, "Take, none, cut", e, api.ErrNone)
	_, e = y.take(1)
	want(t, "Take, cut", e, api.ErrCut)
}

// TestTake (P9.2, P9.4): in any order; what is taken is what was sent, once.
func TestTake(t *testing.T) {
	r := rand.New(rand.NewSource(3))
	for range 100 {
		y := some(t)
		sent := y.x.List()
		for _, i := range r.Perm(len(sent)) {
			if x, e := y.take(sent[i].ID); x != sent[i] || e != api.OK {
				t.Fatalf("Take(%d): %v, %v; want %v", sent[i].ID, x, e, sent[i])
			}
			if x, e := y.take(sent[i].ID); x != (api.Gram{}) || e != api.ErrNone {
				t.Fatalf("Take(%d) again: %v, %v", sent[i].ID, x, e)
			}
		}
		y.send(0, "a", 1)
		y.take(1)
		y.take(7)
	}
}

// TestTakeNone (P9.2): numbers that none has, or has yet, which a later message may have.
func TestTakeNone(t *testing.T) {
	y := some(t)
	for _, id := range []uint64{0, 7, 8, 1 << 32, 1<<32 + 1, 1 << 63, math.MaxUint64} {
		if x, e := y.take(id); x != (api.Gram{}) || e != api.ErrNone {
			t.Errorf("Take(%d): %v, %v", id, x, e)
		}
	}
	y.send(4, "d", 5)
	if x, e := y.take(7); x != (api.Gram{ID: 7, From: 4, To: 5, Text: "d"}) || e != api.OK {
		t.Errorf("Take(7): %v, %v", x, e)
	}
}

// TestTakeCut (P9.2, P9.3): what is on a way that is cut stays, as it was, till that way is cut no more.
func TestTakeCut(t *testing.T) {
	y := some(t)
	y.cut(0, 1)
	for range 3 {
		if x, e := y.take(1); x != (api.Gram{}) || e != api.ErrCut {
			t.Errorf("Take(1), cut: %v, %v", x, e)
		}
	}
	y.cut(1, 0)
	_, e := y.take(3)
	want(t, "Take(3), cut", e, api.ErrCut)
	y.heal(0, 1)
	if x, e := y.take(1); x != (api.Gram{ID: 1, From: 0, To: 1, Text: "a"}) || e != api.OK {
		t.Errorf("Take(1), healed: %v, %v", x, e)
	}
	_, e = y.take(3)
	want(t, "Take(3), cut still", e, api.ErrCut)
	y.send(1, "d", 0)
	_, e = y.take(7)
	want(t, "Take(7), sent on a cut way", e, api.ErrCut)
	_, e = y.take(1)
	want(t, "Take(1), taken, cut anew", e, api.ErrNone)
	y.heal(1, 0)
	y.take(7)
	y.take(3)
}

// TestDrop (P9.2): just those of these numbers that are on their way go, each once, on ways that are cut, too; numbers that none has, and none at all, do nothing.
func TestDrop(t *testing.T) {
	for _, ids := range [][]uint64{
		nil, {}, {0}, {7}, {1}, {1, 1}, {1, 9}, {9, 1, 1, 3}, {6, 5, 4, 3, 2, 1}, {1, 2, 3, 4, 5, 6, 7}, {math.MaxUint64, 2, 1 << 32},
		slices.Repeat([]uint64{4, 8, 2}, 1000),
	} {
		y := some(t)
		y.cut(1, 0)
		y.drop(ids...)
		if n := y.drop(ids...); n != 0 {
			t.Errorf("Drop(%v) again: %d", ids, n)
		}
		for _, id := range ids {
			_, e := y.take(id)
			want(t, "Take of what was dropped", e, api.ErrNone)
			_, e = y.double(id)
			want(t, "Double of what was dropped", e, api.ErrNone)
		}
		y.send(1, "z", 0, 1)
		y.drop(7, 8, 9)
		y.heal(1, 0)
	}
	y := newPair(t)
	if n := y.drop(0, 1, 2); n != 0 {
		t.Errorf("Drop of none: %d", n)
	}
}

// TestDropMany (P9.2): numbers may be handed in far more often than there are messages.
func TestDropMany(t *testing.T) {
	y := full(t)
	ids := make([]uint64, 1<<20)
	for i := range ids {
		ids[i] = uint64(i % (2 * most))
	}
	if n := y.x.Drop(ids...); n != most || len(y.x.List()) != 0 {
		t.Errorf("Drop of %d numbers: %d", len(ids), n)
	}
}

// TestDouble (P9.2): one that is alike is on its way, too, on a cut way as well; the one may be taken, dropped or doubled without the other.
func TestDouble(t *testing.T) {
	y := some(t)
	y.cut(2, 2)
	for id := uint64(1); id <= 6; id++ {
		was := y.x.List()[id-1]
		n, e := y.double(id)
		was.ID = n
		if l := y.x.List(); e != api.OK || n != 6+id || l[len(l)-1] != was {
			t.Errorf("Double(%d): %d, %v, %v", id, n, e, l)
		}
	}
	if n, e := y.double(7); n != 13 || e != api.OK {
		t.Errorf("Double(7): %d, %v", n, e)
	}
	y.take(1)
	y.drop(7)
	if x, e := y.take(13); x != (api.Gram{ID: 13, From: 0, To: 1, Text: "a"}) || e != api.OK {
		t.Errorf("Take(13): %v, %v", x, e)
	}
	for _, id := range []uint64{0, 1, 7, 13, 14, math.MaxUint64} {
		n, e := y.double(id)
		if n != 0 || e != api.ErrNone {
			t.Errorf("Double(%d): %d, %v", id, n, e)
		}
	}
	if n, e := y.double(2); n != 14 || e != api.OK {
		t.Errorf("Double(2), behind errors: %d, %v", n, e)
	}
}

// TestDoubleFull (P9.2): up to as many as there may be; one beyond is refused, and uses up no number.
func TestDoubleFull(t *testing.T) {
	y := full(t)
	for _, id := range []uint64{1, 2, most} {
		n, e := y.double(id)
		if n != 0 || e != api.ErrFull {
			t.Errorf("Double(%d), full: %d, %v", id, n, e)
		}
	}
	y.take(9)
	if n, e := y.double(1); n != most+1 || e != api.OK {
		t.Errorf("Double(1), one less: %d, %v", n, e)
	}
	_, e := y.double(1)
	want(t, "Double, full", e, api.ErrFull)
}

// TestNumbers (P9.1, P9.2): they go up from 1, one for each that ever was on its way, and none comes again, whatever was taken or dropped.
func TestNumbers(t *testing.T) {
	x := New()
	for i := uint64(1); i <= 3*most; i += 3 {
		x.Send(0, "a", 1, 2)
		x.Send(0, "a")
		x.Send(0, "a", -1)
		x.Send(0, long, 1)
		x.Double(0)
		if n, e := x.Double(i); n != i+2 || e != api.OK {
			t.Fatalf("Double(%d): %d, %v", i, n, e)
		}
		if l := x.Ready(); !slices.Equal(l, []uint64{i, i + 1, i + 2}) {
			t.Fatalf("Ready: %v, want from %d on", l, i)
		}
		x.Take(i + 1)
		x.Drop(i+2, i)
	}
}

// TestCutPlaces (P9.3): both must be places; else nothing is cut, or healed.
func TestCutPlaces(t *testing.T) {
	y := some(t)
	y.cut(0, 1)
	for _, bad := range notPlaces {
		for _, k := range append([]int{0, 1, beyond - 1}, notPlaces...) {
			want(t, "Cut, no such place", y.cut(bad, k), api.ErrArg)
			want(t, "Cut, no such place", y.cut(k, bad), api.ErrArg)
			want(t, "Heal, no such place", y.heal(bad, k), api.ErrArg)
			want(t, "Heal, no such place", y.heal(k, bad), api.ErrArg)
		}
	}
	for _, a := range []int{0, 1, beyond - 1} {
		for _, b := range []int{0, 1, beyond - 1} {
			want(t, "Cut", y.cut(a, b), api.OK)
			want(t, "Heal", y.heal(a, b), api.OK)
		}
	}
}

// TestWays (P9.3): each way is cut by itself, from the one to the other, and back; to cut or to heal it twice is as once.
func TestWays(t *testing.T) {
	places := []int{0, 1, 2, 3, beyond - 1}
	for _, a := range places {
		for _, b := range places {
			y := newPair(t)
			for _, from := range places {
				y.send(from, "m", places...)
			}
			for range 2 {
				y.cut(a, b)
				for _, x := range y.x.List() {
					if got := slices.Contains(y.x.Ready(), x.ID); got != (x.From != a || x.To != b) {
						t.Errorf("cut from %d to %d: from %d to %d may be taken: %v", a, b, x.From, x.To, got)
					}
				}
			}
			y.heal(b, (a+1)%beyond)
			for range 2 {
				y.heal(a, b)
				if len(y.x.Ready()) != len(places)*len(places) {
					t.Errorf("healed from %d to %d: %v", a, b, y.x.Ready())
				}
			}
		}
	}
}

// TestAllWays (P9.3): all ways that there are may be cut, and healed one by one.
func TestAllWays(t *testing.T) {
	x := New()
	for a := range beyond {
		for b := range beyond {
			want(t, "Cut", x.Cut(a, b), api.OK)
		}
	}
	for a := range beyond {
		to := []int{a, (a + 500) % beyond, (a + 1) % beyond}
		x.Send(a, "a", to...)
		if l := x.Ready(); len(l) != 0 {
			t.Fatalf("all cut, from %d: %v", a, l)
		}
		x.Heal(a, to[1])
		if l := x.Ready(); len(l) != 1 || l[0] != uint64(3*a+2) {
			t.Fatalf("healed from %d to %d: %v", a, to[1], l)
		}
		x.Drop(uint64(3*a+1), uint64(3*a+2), uint64(3*a+3))
	}
}

// TestReady (P9.3): just those may be taken that Ready tells; and they rise.
func TestReady(t *testing.T) {
	r := rand.New(rand.NewSource(4))
	for range 200 {
		y := newPair(t)
		for range 12 {
			y.send(r.Intn(4), "m", r.Intn(4), r.Intn(4))
			y.cut(r.Intn(4), r.Intn(4))
			y.heal(r.Intn(4), r.Intn(4))
			y.drop(uint64(r.Intn(24)))
		}
		ready := y.x.Ready()
		if !slices.IsSorted(ready) {
			t.Fatalf("Ready: %v", ready)
		}
		for _, x := range y.x.List() {
			if _, e := y.take(x.ID); (e == api.OK) != slices.Contains(ready, x.ID) {
				t.Fatalf("Ready: %v; Take(%d): %v", ready, x.ID, e)
			}
		}
	}
}

// TestTaken (P9.4): whatever is done between, each message that is taken was sent, with that text, from him to him, and is taken once at most.
func TestTaken(t *testing.T) {
	r := rand.New(rand.NewSource(5))
	for range 50 {
		x := New()
		sent, taken := map[api.Gram]bool{}, map[uint64]bool{}
		for i := range 400 {
			from, to, text := r.Intn(3), r.Intn(3), strconv.Itoa(i)
			switch r.Intn(6) {
			case 0, 1:
				x.Send(from, text, to, (to+1)%3)
				sent[api.Gram{From: from, To: to, Text: text}] = true
				sent[api.Gram{From: from, To: (to + 1) % 3, Text: text}] = true
			case 2:
				x.Double(uint64(r.Intn(i + 1)))
			case 3:
				x.Drop(uint64(r.Intn(i + 1)))
			case 4:
				x.Cut(from, to)
				x.Heal(to, from)
			}
			g, e := x.Take(uint64(r.Intn(i + 1)))
			if e != api.OK {
				continue
			}
			if taken[g.ID] {
				t.Fatalf("taken twice: %v", g)
			}
			taken[g.ID] = true
			g.ID = 0
			if !sent[g] {
				t.Fatalf("taken, not sent: %v", g)
			}
		}
	}
}

// inside tells whether a text stands in another one's memory.
func inside(text, s string) bool {
	at, from := uintptr(unsafe.Pointer(unsafe.StringData(text))), uintptr(unsafe.Pointer(unsafe.StringData(s)))
	return at >= from && at < from+uintptr(len(s))
}

// TestNewMemory (R5): no text that is handed in is kept; what was told stays as it was, and stands nowhere else.
func TestNewMemory(t *testing.T) {
	x := New()
	text := strings.Repeat("abcdefgh", 8)
	for i := range 4 {
		x.Send(0, text[i:i+8], 1, 2)
	}
	x.Double(1)
	for _, g := range x.on {
		if inside(g.Text, text) {
			t.Errorf("%q is kept as a piece of what was handed in", g.Text)
		}
	}
	var texts []string
	note := func(l ...api.Gram) {
		for _, y := range l {
			texts = append(texts, y.Text)
		}
	}
	a, b := x.List(), x.List()
	was := slices.Clone(a)
	note(a...)
	note(b...)
	for _, id := range []uint64{1, 2, 9} {
		g, _ := x.Take(id)
		note(g)
	}
	note(x.List()...)
	for i, s := range texts {
		if inside(s, text) {
			t.Errorf("%q is a piece of what was handed in", s)
		}
		for _, other := range texts[:i] {
			if inside(s, other) {
				t.Errorf("%q is told twice, in the same memory", s)
			}
		}
	}
	ready, again := x.Ready(), x.Ready()
	x.Drop(3)
	if !slices.Equal(a, was) || !slices.Equal(b, was) || !slices.Equal(ready, []uint64{3, 4, 5, 6, 7, 8}) {
		t.Error("what was told changed")
	}
	left := x.List()
	clear(a)
	clear(x.List())
	clear(x.Ready())
	clear(ready)
	if l := x.List(); !slices.Equal(l, left) || !slices.Equal(b, was) || again[0] != 3 || len(x.Ready()) != 5 {
		t.Errorf("List: %v, was %v", l, left)
	}
}

// drawnPlaces are places, most of them often, and some numbers that are none.
var drawnPlaces = []int{0, 1, 2, 0, 1, 2, 0, 1, 2, 3, 1022, beyond - 1, 0, 1, 2, 0, 1, 2, 0, 1, 2, 4, -1, beyond}

// steps does what the bytes say, one call behind the other, and holds each against the chapter's words.
func steps(y pair, script []byte) {
	y.t.Helper()
	next := func() int {
		if len(script) == 0 {
			return 0
		}
		b := script[0]
		script = script[1:]
		return int(b)
	}
	place := func() int { return drawnPlaces[next()%len(drawnPlaces)] }
	number := func() uint64 { return y.p.numbers + 2 - uint64(next()%64)%(y.p.numbers+3) }
	for len(script) > 0 {
		switch next() % 12 {
		default:
			from, text := place(), strings.Repeat("x", next()%3)
			to := make([]int, next()%4)
			for i := range to {
				to[i] = place()
			}
			y.send(from, text, to...)
		case 0:
			y.send(place(), long[:longer+next()%2], place())
		case 1, 2, 3:
			y.take(number())
		case 4:
			ids := make([]uint64, next()%5)
			for i := range ids {
				ids[i] = number()
			}
			y.drop(ids...)
		case 5, 6:
			y.double(number())
		case 7, 8:
			y.cut(place(), place())
		case 9:
			y.heal(place(), place())
		}
	}
}

// TestDrawn (P9.1 to P9.3, R6): calls that are drawn, one behind the other, twice the same.
func TestDrawn(t *testing.T) {
	r := rand.New(rand.NewSource(6))
	for range 400 {
		script := make([]byte, r.Intn(300))
		r.Read(script)
		a, b := newPair(t), newPair(t)
		steps(a, script)
		steps(b, script)
		if !slices.Equal(a.x.List(), b.x.List()) || !slices.Equal(a.x.Ready(), b.x.Ready()) {
			t.Fatal("the same calls made two sorts of nets")
		}
	}
}

// TestDrawnFull (P9.1 to P9.3): calls that are drawn, on a net that is all but full.
func TestDrawnFull(t *testing.T) {
	r := rand.New(rand.NewSource(7))
	y := full(t)
	number := func() uint64 { return uint64(r.Intn(int(y.p.numbers) + 2)) }
	for range 400 {
		switch r.Intn(8) {
		case 0, 1:
			y.take(number())
		case 2:
			y.drop(number(), number(), number())
		case 3, 4:
			y.double(number())
		case 5:
			y.send(r.Intn(7), "y", make([]int, r.Intn(5))...)
		case 6:
			y.cut(3, r.Intn(7))
		case 7:
			y.heal(3, r.Intn(7))
		}
	}
}

// FuzzNet (P9.1 to P9.3): any calls, one behind the other.
func FuzzNet(f *testing.F) {
	f.Add([]byte{10, 0, 1, 2, 1, 2, 5, 1, 4, 2, 1, 9, 1, 0, 1, 0})
	f.Add([]byte{7, 0, 1, 10, 0, 1, 1, 1, 10, 1, 1, 1, 0, 1, 2, 9, 0, 1, 1, 2})
	f.Fuzz(func(t *testing.T, script []byte) { steps(newPair(t), script) })
}

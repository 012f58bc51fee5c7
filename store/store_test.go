package store

import (
	"encoding/binary"
	"math"
	"math/rand"
	"reflect"
	"slices"
	"strings"
	"testing"

	"thresher/api"
	"thresher/book"
	"thresher/sector"
)

const (
	top  = 1 << 62 // the greatest generation
	most = 1 << 16 // bytes of a snapshot
)

// letters is n bytes, all of them that letter.
func letters(letter string, n int) string { return strings.Repeat(letter, n) }

// drawn is a text of n bytes that are drawn.
func drawn(r *rand.Rand, n int) string {
	b := make([]byte, n)
	r.Read(b)
	return string(b)
}

// headed is the head of that generation and snapshot, as the chapter tells it.
func headed(gen uint64, snapshot string) string {
	b := binary.AppendUvarint(nil, gen)
	return string(binary.AppendUvarint(b, uint64(len(snapshot)))) + snapshot
}

// framedSize is how many bytes a frame of a text of n bytes has.
func framedSize(n int) int { return 2 + len(binary.AppendUvarint(nil, uint64(n))) + n + 4 }

// plainHead reads a head: what a head's bytes are, made anew, is all of it.
func plainHead(record string) (gen uint64, snapshot string, ok bool) {
	gen, n := binary.Uvarint([]byte(record))
	if n <= 0 || gen < 1 || gen > top {
		return 0, "", false
	}
	size, m := binary.Uvarint([]byte(record[n:]))
	if m <= 0 || size > most || size > uint64(len(record)-n-m) {
		return 0, "", false
	}
	snapshot = record[n+m : n+m+int(size)]
	if record != headed(gen, snapshot) {
		return 0, "", false
	}
	return gen, snapshot, true
}

// plainStore is a store as the chapter's words tell it.
type plainStore struct {
	d      *sector.Disk
	b      *book.Book
	h      int // sectors of a half
	from   int
	gen    uint64
	broken bool
	failed bool // a Trim
}

// plainFault is why there is no store on a disk.
func plainFault(d *sector.Disk) api.Errno {
	if d == nil || d.Len() == 0 {
		return api.ErrNil
	}
	if d.Len() < 2 {
		return api.ErrArg
	}
	return api.OK
}

// plainRefused is why a half of h sectors can't have that head.
func plainRefused(h int, gen uint64, snapshot string) api.Errno {
	if len(snapshot) > most {
		return api.ErrLong
	}
	if gen > top || framedSize(len(headed(gen, snapshot))) > h*127 {
		return api.ErrFull
	}
	return api.OK
}

// plainBegin is what Make and Trim do with the half that is to have the store.
func plainBegin(d *sector.Disk, from, h int, gen uint64, snapshot string) (*book.Book, api.Errno) {
	b, _, e := book.Open(d, from, h)
	if e == api.OK {
		e = b.Append(headed(gen, snapshot))
	}
	if e == api.OK {
		e = b.Sync()
	}
	return b, e
}

func plainMake(d *sector.Disk, snapshot string) api.Errno {
	if e := plainFault(d); e != api.OK {
		return e
	}
	h := d.Len() / 2
	if e := plainRefused(h, 1, snapshot); e != api.OK {
		return e
	}
	e := book.Clear(d, 0, h)
	if e == api.OK {
		e = book.Clear(d, h, h)
	}
	if e == api.OK {
		_, e = plainBegin(d, 0, h, 1, snapshot)
	}
	return e
}

func plainOpen(d *sector.Disk) (p *plainStore, snapshot string, records []string, e api.Errno) {
	if e := plainFault(d); e != api.OK {
		return nil, "", nil, e
	}
	h := d.Len() / 2
	a, la, e := book.Open(d, 0, h)
	if e != api.OK {
		return nil, "", nil, e
	}
	b, lb, e := book.Open(d, h, h)
	if e != api.OK {
		return nil, "", nil, e
	}
	var genA, genB uint64
	var snapA, snapB string
	if len(la) > 0 {
		genA, snapA, _ = plainHead(la[0])
	}
	if len(lb) > 0 {
		genB, snapB, _ = plainHead(lb[0])
	}
	switch {
	case genA == 0 && genB == 0:
		return nil, "", nil, api.ErrNothing
	case genA >= genB:
		return &plainStore{d: d, b: a, h: h, gen: genA}, snapA, la[1:], api.OK
	}
	return &plainStore{d: d, b: b, h: h, from: h, gen: genB}, snapB, lb[1:], api.OK
}

// after notes an error of the disk.
func (p *plainStore) after(e api.Errno) api.Errno {
	p.broken = p.broken || e == api.ErrDown
	return e
}

func (p *plainStore) append(texts ...string) api.Errno { return p.after(p.b.Append(texts...)) }
func (p *plainStore) sync() api.Errno                  { return p.after(p.b.Sync()) }

func (p *plainStore) trim(snapshot string) api.Errno {
	if p.broken || p.failed {
		return api.ErrState
	}
	if e := plainRefused(p.h, p.gen+1, snapshot); e != api.OK {
		return e
	}
	from := p.h - p.from
	e := book.Clear(p.d, from, p.h)
	var b *book.Book
	if e == api.OK {
		b, e = plainBegin(p.d, from, p.h, p.gen+1, snapshot)
	}
	if e != api.OK {
		p.failed = true
		return e
	}
	p.b, p.from, p.gen = b, from, p.gen+1
	return api.OK
}

// diskOf is a disk of so many sectors, that has that text for good from its first byte on.
func diskOf(t *testing.T, sectors int, text string) *sector.Disk {
	t.Helper()
	d, e := sector.New(sectors)
	if e != api.OK {
		t.Fatalf("New(%d): %v", sectors, e)
	}
	for k := 0; len(text) > 0; k++ {
		n := min(len(text), 128)
		if e := d.Write(k, text[:n]); e != api.OK {
			t.Fatalf("Write(%d): %v", k, e)
		}
		text = text[n:]
	}
	if e := d.Sync(); e != api.OK {
		t.Fatalf("Sync: %v", e)
	}
	return d
}

// laid is all bytes of a disk of so many sectors, whose halves are books of these records.
func laid(t *testing.T, sectors int, halves ...[]string) string {
	t.Helper()
	d := diskOf(t, sectors, "")
	for i, l := range halves {
		b, _, e := book.Open(d, i*(sectors/2), sectors/2)
		if e == api.OK {
			e = b.Append(l...)
		}
		if e != api.OK {
			t.Fatalf("a book of %q: %v", l, e)
		}
	}
	d.Sync()
	return d.Sure()
}

// pair is two disks to which the same is done: on one there is a store, on the other one what it should be.
type pair struct {
	t       *testing.T
	d, twin *sector.Disk
	s       *Store
	p       *plainStore
}

// newPair is disks of so many sectors, that have that text for good from their first byte on; no store is open.
func newPair(t *testing.T, sectors int, text string) *pair {
	t.Helper()
	return &pair{t: t, d: diskOf(t, sectors, text), twin: diskOf(t, sectors, text)}
}

// made is disks of so many sectors, with a store of that snapshot, which is open.
func made(t *testing.T, sectors int, snapshot string) *pair {
	t.Helper()
	x := newPair(t, sectors, "")
	x.must(x.make(snapshot))
	x.must(x.open())
	return x
}

// must ends the test, unless all went well.
func (x *pair) must(e api.Errno) {
	x.t.Helper()
	if e != api.OK {
		x.t.Fatal(e)
	}
}

// end holds an answer against what is wanted, and the disk against its twin, and what the store tells of itself.
func (x *pair) end(what string, e, want api.Errno) api.Errno {
	x.t.Helper()
	if e != want {
		x.t.Fatalf("%s: %v, want %v", what, e, want)
	}
	if x.d.Loose() != x.twin.Loose() || x.d.Sure() != x.twin.Sure() {
		x.t.Fatalf("%s: %d loose, %.999q; want %d, %.999q", what, x.d.Loose(), x.d.Sure(), x.twin.Loose(), x.twin.Sure())
	}
	for k := range x.d.Len() {
		s, e := x.d.Read(k)
		if want, wantE := x.twin.Read(k); s != want || e != wantE {
			x.t.Fatalf("%s: sector %d is %q, %v; want %q, %v", what, k, s, e, want, wantE)
		}
	}
	if x.p != nil && (x.s.Gen() != x.p.gen || x.s.Room() != x.p.b.Room()) {
		x.t.Fatalf("%s: Gen, Room: %d, %d; want %d, %d", what, x.s.Gen(), x.s.Room(), x.p.gen, x.p.b.Room())
	}
	return e
}

func (x *pair) make(snapshot string) api.Errno {
	x.t.Helper()
	return x.end("Make", Make(x.d, snapshot), plainMake(x.twin, snapshot))
}

func (x *pair) open() api.Errno {
	x.t.Helper()
	s, snapshot, l, e := Open(x.d)
	p, wantSnapshot, want, wantE := plainOpen(x.twin)
	if snapshot != wantSnapshot || !slices.Equal(l, want) || (s == nil) != (p == nil) {
		x.t.Fatalf("Open: %v, %.99q, %.99q; want %v, %.99q, %.99q", s, snapshot, l, p, wantSnapshot, want)
	}
	x.s, x.p = s, p
	return x.end("Open", e, wantE)
}

func (x *pair) append(texts ...string) api.Errno {
	x.t.Helper()
	return x.end("Append", x.s.Append(texts...), x.p.append(texts...))
}

func (x *pair) sync() api.Errno {
	x.t.Helper()
	return x.end("Sync", x.s.Sync(), x.p.sync())
}

func (x *pair) trim(snapshot string) api.Errno {
	x.t.Helper()
	return x.end("Trim", x.s.Trim(snapshot), x.p.trim(snapshot))
}

func (x *pair) fuse(n int) {
	x.t.Helper()
	x.end("Fuse", x.d.Fuse(n), x.twin.Fuse(n))
}

func (x *pair) crash(picks ...int) {
	x.t.Helper()
	x.end("Crash", x.d.Crash(picks...), x.twin.Crash(picks...))
}

// want holds an answer against what is wanted.
func want(t *testing.T, what string, e, wanted api.Errno) {
	t.Helper()
	if e != wanted {
		t.Errorf("%s: %v, want %v", what, e, wanted)
	}
}

// has holds what a disk's store has against what is wanted of it.
func has(t *testing.T, d *sector.Disk, gen uint64, snapshot string, records ...string) *Store {
	t.Helper()
	s, x, l, e := Open(d)
	if e != api.OK || s.Gen() != gen || x != snapshot || !slices.Equal(l, records) {
		t.Fatalf("Open: %d, %.99q, %.99q, %v; want %d, %.99q, %.99q", s.Gen(), x, l, e, gen, snapshot, records)
	}
	return s
}

// hasNot holds an Open that tells an error.
func hasNot(t *testing.T, d *sector.Disk, wanted api.Errno) {
	t.Helper()
	if s, x, l, e := Open(d); s != nil || x != "" || len(l) != 0 || e != wanted {
		t.Errorf("Open: %v, %.99q, %.99q, %v; want %v", s, x, l, e, wanted)
	}
}

// TestExamples: the chapter's, as they stand there.
func TestExamples(t *testing.T) {
	d := diskOf(t, 4, "")
	want(t, "Make", Make(d, "s"), api.OK)
	s := has(t, d, 1, "s")
	want(t, "Append", s.Append("a"), api.OK)
	want(t, "Sync", s.Sync(), api.OK)
	want(t, "Append", s.Append("b"), api.OK)
	d.Crash()
	s = has(t, d, 1, "s", "a")
	want(t, "Trim", s.Trim("t"), api.OK)
	want(t, "Append", s.Append("c"), api.OK)
	want(t, "Sync", s.Sync(), api.OK)
	has(t, d, 2, "t", "c")
	d.Crash()
	has(t, d, 2, "t", "c")
}

// TestNone (P7.1 to P7.4, R3): without a disk, or a store, nothing is told, and nothing is done; that is asked ahead of all else.
func TestNone(t *testing.T) {
	for _, d := range []*sector.Disk{nil, {}, new(sector.Disk)} {
		for _, s := range []string{"", "s", letters("s", most+1)} {
			want(t, "Make on no disk", Make(d, s), api.ErrNil)
		}
		hasNot(t, d, api.ErrNil)
	}
	for _, s := range []*Store{nil, {}, new(Store)} {
		for range 2 {
			want(t, "Append", s.Append(), api.ErrNil)
			want(t, "Append", s.Append("a", letters("a", 1<<18)), api.ErrNil)
			want(t, "Sync", s.Sync(), api.ErrNil)
			want(t, "Trim", s.Trim("t"), api.ErrNil)
			want(t, "Trim, too long", s.Trim(letters("t", most+1)), api.ErrNil)
			if s.Gen() != 0 || s.Room() != 0 {
				t.Errorf("no store: %d, %d", s.Gen(), s.Room())
			}
		}
	}
}

// TestCalls (R1, R3): a store has just the calls that the chapter lists, so that none of its book's can be called of nil.
func TestCalls(t *testing.T) {
	var names []string
	for m := range reflect.TypeFor[*Store]().Methods() {
		names = append(names, m.Name)
	}
	if !slices.Equal(names, []string{"Append", "Gen", "Room", "Sync", "Trim"}) {
		t.Errorf("a store's calls: %q", names)
	}
}

// TestSmall (P7.1, P7.2): a disk of one sector is none for a store, one of two is; which is changed by nothing that is refused.
func TestSmall(t *testing.T) {
	for _, s := range []string{"", "s", letters("s", most+1)} {
		for _, still := range []bool{false, true} {
			d := diskOf(t, 1, "ab")
			d.Write(0, "loose")
			if still {
				d.Fuse(0)
			}
			sure := d.Sure()
			want(t, "Make on a sector", Make(d, s), api.ErrArg)
			hasNot(t, d, api.ErrArg)
			if d.Sure() != sure || d.Loose() != 1 {
				t.Error("a disk of one sector was changed")
			}
		}
	}
	x := made(t, 2, "s")
	x.must(x.append("a"))
	x.must(x.trim("t"))
	x.must(x.append("b"))
	x.must(x.sync())
	has(t, x.d, 2, "t", "b")
}

// TestMake (P7.1): whatever stands there, a store of that snapshot is behind it, for good, and without records; a sector that is no half's stays as it is.
func TestMake(t *testing.T) {
	r := rand.New(rand.NewSource(1))
	for i := range 300 {
		sectors := 2 + r.Intn(8)
		text := drawn(r, 128*sectors)
		if i%3 == 0 {
			text = laid(t, sectors&^1, []string{headed(r.Uint64()>>2, "old"), "a"}, []string{headed(r.Uint64()>>2, "older")})
			text += drawn(r, 128*(sectors%2))
		}
		x := newPair(t, sectors, text)
		snapshot := drawn(r, r.Intn(100))
		want(t, "Make", x.make(snapshot), api.OK)
		if x.d.Loose() != 0 {
			t.Errorf("behind Make: %d loose", x.d.Loose())
		}
		wanted := laid(t, sectors, []string{headed(1, snapshot)})
		if sectors%2 == 1 {
			wanted = wanted[:128*(sectors-1)] + text[128*(sectors-1):]
		}
		if s := x.d.Sure(); s != wanted {
			t.Fatalf("behind Make: %.999q, want %.999q", s, wanted)
		}
		x.crash()
		has(t, x.d, 1, snapshot)
	}
}

// TestMakeCalls (P7.1): which calls of the disk there are, in order, and each one's error; on a disk that is clear a half's first sectors are written, and synced.
func TestMakeCalls(t *testing.T) {
	text := laid(t, 8, []string{headed(7, "old"), letters("a", 300)}, []string{headed(8, "older"), letters("b", 200)})
	for _, v := range []struct {
		text, snapshot string
		calls          int
	}{
		{"", "s", 1 + 1},
		{"", letters("s", 118), 1 + 1},
		{"", letters("s", 119), 2 + 1},
		{"", letters("s", 300), 3 + 1},
		{text, "s", (3 + 1) + (3 + 1) + (2 + 1) + (2 + 1) + 1 + 1},
	} {
		for n := range v.calls + 2 {
			x := newPair(t, 8, v.text)
			x.fuse(n)
			wanted := api.OK
			if n < v.calls {
				wanted = api.ErrDown
			}
			want(t, "Make under a fuse", x.make(v.snapshot), wanted)
			if n > v.calls {
				want(t, "the call behind Make", x.d.Sync(), api.OK)
				want(t, "the next one", x.d.Sync(), []api.Errno{api.ErrDown, api.OK}[min(n-v.calls-1, 1)])
			}
		}
	}
}

// TestFull (P7.1, P7.4): a head whose frame just fills a half, of generation 1 and of the one of then; a byte more is refused, and changes nothing.
func TestFull(t *testing.T) {
	for h := 1; h < 5; h++ {
		for odd := range 2 {
			for _, gen := range []uint64{0, 1, 126, 127, 128, 1<<14 - 2, 1<<14 - 1, 1 << 56, top - 2, top - 1} {
				fits := 127*h - framedSize(0)
				for framedSize(len(headed(gen+1, letters("s", fits)))) > 127*h {
					fits--
				}
				sectors := 2*h + odd
				x := newPair(t, sectors, "")
				do := x.make
				if gen > 0 {
					x = newPair(t, sectors, laid(t, sectors, nil, []string{headed(gen, "old"), "a"}))
					x.must(x.open())
					do = x.trim
				}
				sure := x.d.Sure()
				for _, n := range []int{fits + 1, fits + 2, fits + 127, fits + 1000, most} {
					want(t, "a head that is too much", do(letters("s", n)), api.ErrFull)
				}
				if x.d.Sure() != sure || x.d.Loose() != 0 {
					t.Error("what was refused changed the disk")
				}
				if gen > 0 {
					x.must(x.append("b"))
				}
				want(t, "a head that just fits", do(letters("s", fits)), api.OK)
				s := has(t, x.d, gen+1, letters("s", fits))
				if s.Room() >= 7 {
					t.Errorf("Room behind a head that just fits: %d", s.Room())
				}
				want(t, "Append to a full half", s.Append(""), api.ErrFull)
			}
		}
	}
}

// TestLong (P7.1, P7.2, P7.4): a snapshot of MaxSnapshot bytes is one; a byte more is too long, also where there is no room.
func TestLong(t *testing.T) {
	snapshot := letters("s", most)
	for _, sectors := range []int{2, 2 * 517, 2*517 + 1, 2 * 600, api.MaxSectors} {
		x := newPair(t, sectors, "")
		want(t, "Make, too long", x.make(snapshot+"s"), api.ErrLong)
		want(t, "Make, far too long", x.make(letters("s", 1<<20)), api.ErrLong)
		if x.d.Sure() != letters("\x00", 128*sectors) || x.d.Loose() != 0 {
			t.Error("Make of too much changed the disk")
		}
		x.must(x.make("s"))
		x.must(x.open())
		want(t, "Trim, too long", x.trim(snapshot+"s"), api.ErrLong)
		want(t, "Trim, far too long", x.trim(letters("s", 1<<20)), api.ErrLong)
		if sectors == 2 {
			want(t, "Make, too much", x.make(snapshot), api.ErrFull)
			want(t, "Trim, too much", x.trim(snapshot), api.ErrFull)
			continue
		}
		x.must(x.trim(snapshot))
		has(t, x.d, 2, snapshot)
		x.must(x.make(snapshot))
		s := has(t, x.d, 1, snapshot)
		if s.Room() != (sectors/2)*127-framedSize(1+3+most) {
			t.Errorf("Room behind a snapshot of all bytes: %d", s.Room())
		}
	}
	// One sector less, and there is no room for that head.
	want(t, "Make, too much", Make(diskOf(t, 2*516+1, ""), snapshot), api.ErrFull)
}

// heads are first records, and of which generation a store they make of a half; 0: of none.
func heads() []struct {
	record   string
	gen      uint64
	snapshot string
} {
	long := letters("s", most)
	return []struct {
		record   string
		gen      uint64
		snapshot string
	}{
		{"\x01\x00", 1, ""},
		{"\x01\x01s", 1, "s"},
		{"\x7f\x02ab", 127, "ab"},
		{"\x80\x01\x02ab", 128, "ab"},
		{headed(top-1, "s"), top - 1, "s"},
		{headed(top, "s"), top, "s"},
		{headed(5, long), 5, long},
		{headed(5, headed(6, "s")), 5, headed(6, "s")},
		{"", 0, ""},
		{"\x01", 0, ""},
		{"\x00", 0, ""},
		{"\x00\x00", 0, ""},
		{"\x00\x01s", 0, ""},
		{"\x80", 0, ""},
		{"\x80\x00\x00", 0, ""},
		{"\x81\x00\x00", 0, ""},
		{"\x01\x81\x00s", 0, ""},
		{"\x01\x80", 0, ""},
		{"\x01\x00s", 0, ""},
		{"\x01\x01", 0, ""},
		{"\x01\x01st", 0, ""},
		{"\x01\x02s", 0, ""},
		{headed(3, "s") + "\x00", 0, ""},
		{headed(3, "s") + headed(4, "t"), 0, ""},
		{headed(top+1, "s"), 0, ""},
		{headed(1<<63, "s"), 0, ""},
		{headed(math.MaxUint64, "s"), 0, ""},
		{letters("\xff", 10) + "\x00", 0, ""},
		{letters("\xff", 11), 0, ""},
		{headed(5, long+"s"), 0, ""},
		{headed(5, long) + "s", 0, ""},
		{headed(5, long)[:most], 0, ""},
		{"\x01" + letters("\xff", 9) + "\x01", 0, ""},
	}
}

// TestHeads (P7.2): which first records are heads, in either half, with records behind and without.
func TestHeads(t *testing.T) {
	const sectors = 2 * 530
	for _, v := range heads() {
		if gen, snapshot, _ := plainHead(v.record); gen != v.gen || snapshot != v.snapshot {
			t.Fatalf("the plain head of %.20q: %d, %.20q", v.record, gen, snapshot)
		}
		for _, behind := range [][]string{nil, {""}, {"a", "b"}, {headed(9, "t"), "c"}} {
			l := append([]string{v.record}, behind...)
			for _, halves := range [][][]string{{l}, {nil, l}, {l, {"x"}}, {{"\x00"}, l}} {
				d := diskOf(t, sectors, laid(t, sectors, halves...))
				if v.gen == 0 {
					hasNot(t, d, api.ErrNothing)
					continue
				}
				s := has(t, d, v.gen, v.snapshot, behind...)
				want(t, "Append", s.Append("new"), api.OK)
				has(t, d, v.gen, v.snapshot, append(slices.Clone(behind), "new")...)
			}
		}
	}
}

// TestHalves (P7.2): of two stores the one of the greater generation, of the same the first half's; Trim leaves the other one.
func TestHalves(t *testing.T) {
	gens := []uint64{0, 1, 2, 3, 127, 128, 200, 1 << 14, 1<<32 - 1, 1 << 32, top - 2, top - 1, top, top + 1, math.MaxUint64}
	for _, a := range gens {
		for _, b := range gens {
			x := newPair(t, 9, laid(t, 9, []string{headed(a, "first"), "a", ""}, []string{headed(b, "second"), "b"}))
			e := x.open()
			isA, isB := a > 0 && a <= top, b > 0 && b <= top
			gen, snapshot, records := a, "first", []string{"a", ""}
			switch {
			case !isA && !isB:
				want(t, "Open of none", e, api.ErrNothing)
				continue
			case !isA, isB && b > a:
				gen, snapshot, records = b, "second", []string{"b"}
			}
			x.s = has(t, x.d, gen, snapshot, records...)
			x.must(x.append("more"))
			x.must(x.sync())
			has(t, x.d, gen, snapshot, append(records, "more")...)
			if e := x.trim("new"); gen == top {
				want(t, "Trim of the last generation", e, api.ErrFull)
				want(t, "Append behind it", x.append("c"), api.OK)
				want(t, "Trim of the last generation", x.trim(""), api.ErrFull)
				want(t, "Trim of the last generation, too long", x.trim(letters("a", most+1)), api.ErrLong)
				has(t, x.d, gen, snapshot, append(records, "more", "c")...)
				continue
			}
			has(t, x.d, gen+1, "new")
		}
	}
}

// TestGens (P7.4): generations up to the last one, that is none to be overtaken.
func TestGens(t *testing.T) {
	x := newPair(t, 4, laid(t, 4, nil, []string{headed(top-3, "s")}))
	x.must(x.open())
	for i, s := range []string{"t", "u", "v"} {
		x.must(x.append("a", s))
		x.must(x.trim(s))
		has(t, x.d, top-2+uint64(i), s)
	}
	want(t, "Trim of the last generation", x.trim("w"), api.ErrFull)
	want(t, "Append", x.append("a"), api.OK)
	has(t, x.d, top, "v", "a")
}

// TestOpenCalls (P7.2): the first half's book is opened, then the second one's, each with the writes that it takes; each one's error; a sector that is no half's is none of it.
func TestOpenCalls(t *testing.T) {
	clean := laid(t, 9, []string{headed(3, "s"), "a"}, []string{headed(2, "r"), "b"})
	b := []byte(clean + letters("z", 128))[:9*128]
	copy(b[8*128:], letters("z", 128))
	clean = string(b)
	b[5*128-1] = 0 // a count of the second half
	b[1*128+5] = 9 // a byte that does not count, of the first half
	b[2*128+5], b[2*128+127] = 9, 9
	for _, v := range []struct {
		text  string
		gen   uint64
		calls int
	}{
		{clean, 3, 0},
		{string(b), 3, (1 + 1) + (2 + 1) + (1 + 1)},
		{letters("\x05", 9*128), 0, 2 * (4 + 1 + 4 + 1)},
	} {
		for n := range v.calls + 2 {
			x := newPair(t, 9, v.text)
			x.fuse(n)
			e := x.open()
			switch {
			case n < v.calls || n == 0:
				want(t, "Open under a fuse", e, api.ErrDown)
			case v.gen == 0:
				want(t, "Open of none under a fuse", e, api.ErrNothing)
			default:
				want(t, "Open under a fuse", e, api.OK)
				if x.s.Gen() != v.gen {
					t.Errorf("Open under a fuse: generation %d", x.s.Gen())
				}
			}
			if n > v.calls {
				want(t, "the call behind Open", x.d.Sync(), api.OK)
			}
		}
	}
}

// TestAppend (P7.3): records of all kinds, one by one and several at once, are told as they were, and just there.
func TestAppend(t *testing.T) {
	r := rand.New(rand.NewSource(2))
	for n := range 200 {
		x := made(t, 12, drawn(r, n))
		for range 2 {
			for _, l := range [][]string{{}, {""}, {drawn(r, n)}, {headed(9, "t"), ""}, nil, {drawn(r, n/3), "c"}} {
				kept := slices.Clone(l)
				x.append(l...)
				if !slices.Equal(kept, l) {
					t.Errorf("Append changed its texts: %q, were %q", l, kept)
				}
			}
			x.sync()
			x.open()
			x.trim(drawn(r, n/2))
		}
	}
}

// TestAppendErrors (P7.3): the book's errors; Room is the book's, and what it tells fits.
func TestAppendErrors(t *testing.T) {
	x := made(t, 8, "s")
	if x.s.Room() != 4*127-framedSize(3) {
		t.Errorf("Room: %d", x.s.Room())
	}
	want(t, "Append, too long", x.append("a", letters("b", api.MaxRecord+1)), api.ErrLong)
	want(t, "Append, too much", x.append(letters("b", 600)), api.ErrFull)
	room := x.s.Room()
	want(t, "Append, a byte too much", x.append("a", letters("b", room-8-8+1)), api.ErrFull)
	want(t, "Append that fits", x.append("a", letters("b", room-8-8)), api.OK)
	if x.s.Room() != 0 {
		t.Errorf("Room behind it: %d", x.s.Room())
	}
	want(t, "Append of nothing", x.append(), api.OK)
	want(t, "Append of an empty record", x.append(""), api.ErrFull)
	want(t, "Sync", x.sync(), api.OK)
	has(t, x.d, 1, "s", "a", letters("b", room-8-8))
	want(t, "Trim of a full one", x.trim("t"), api.OK)
	if x.s.Room() != room {
		t.Errorf("Room behind Trim: %d, want %d", x.s.Room(), room)
	}
}

// TestSync (P7.3): what was appended is for good with the sync, not ahead of it; a sync with nothing loose is the disk's, too.
func TestSync(t *testing.T) {
	x := made(t, 4, "s")
	sure := x.d.Sure()
	x.must(x.append("a"))
	if x.d.Sure() != sure {
		t.Error("Append synced")
	}
	x.must(x.sync())
	if x.d.Sure() != laid(t, 4, []string{headed(1, "s"), "a"}) {
		t.Errorf("behind the sync: %q", x.d.Sure())
	}
	x.fuse(1)
	want(t, "Sync", x.sync(), api.OK)
	want(t, "the next one", x.sync(), api.ErrDown)
	want(t, "Sync, broken", x.sync(), api.ErrState)
}

// TestTrim (P7.4): the store goes on in the other half, by turns, for good; what the half left behind stays there.
func TestTrim(t *testing.T) {
	x := made(t, 9, "s")
	var left []string
	for i := range 300 {
		snapshot := letters(string(rune('a'+i%26)), i%200)
		before := []string{headed(x.s.Gen(), letters(string(rune('a'+(i+25)%26)), (i+199)%200))}
		if i == 0 {
			before = []string{headed(1, "s")}
		}
		records := []string{"r", letters("q", i%99)}
		x.must(x.append(records...))
		if i%2 == 0 {
			x.must(x.sync())
		}
		left = append(before, records...)
		x.must(x.trim(snapshot))
		if x.d.Loose() != 0 {
			t.Fatalf("behind Trim: %d loose", x.d.Loose())
		}
		halves := [][]string{left, {headed(x.s.Gen(), snapshot)}}
		if i%2 == 1 {
			slices.Reverse(halves)
		}
		if x.s.Gen() != uint64(i+2) || x.d.Sure() != laid(t, 9, halves...) {
			t.Fatalf("behind Trim %d: %d, %q", i, x.s.Gen(), x.d.Sure())
		}
		if i%7 == 0 {
			x.crash()
			x.must(x.open())
		}
	}
}

// TestTrimCalls (P7.4): which calls of the disk there are, in order, and each one's error; the store that told one trims no more, but goes on where it stood.
func TestTrimCalls(t *testing.T) {
	for _, v := range []struct {
		other    []string
		snapshot string
		calls    int
	}{
		{nil, "t", 1 + 1},
		{nil, letters("t", 119), 2 + 1},
		{[]string{headed(2, "old")}, "t", (1 + 1) + (1 + 1) + 1 + 1},
		{[]string{headed(2, "old"), letters("b", 300)}, letters("t", 200), (3 + 1) + (3 + 1) + 2 + 1},
	} {
		for n := range v.calls + 2 {
			for _, picks := range [][]int{nil, slices.Repeat([]int{128}, 9), {128, 60}} {
				x := newPair(t, 8, laid(t, 8, []string{headed(3, "s"), "a"}, v.other))
				x.must(x.open())
				x.must(x.append("b"))
				x.must(x.sync())
				x.fuse(n)
				if n >= v.calls {
					want(t, "Trim under a fuse", x.trim(v.snapshot), api.OK)
					has(t, diskOf(t, 8, x.d.Sure()), 4, v.snapshot)
					continue
				}
				want(t, "Trim under a fuse", x.trim(v.snapshot), api.ErrDown)
				want(t, "Trim behind it", x.trim("u"), api.ErrState)
				x.crash(picks...)
				want(t, "Trim behind a crash", x.trim("u"), api.ErrState)
				want(t, "Trim behind a crash, too long", x.trim(letters("u", most+1)), api.ErrState)
				want(t, "Append behind it", x.append("c"), api.OK)
				want(t, "Sync behind it", x.sync(), api.OK)
				want(t, "Trim behind these", x.trim("u"), api.ErrState)
				if x.s.Gen() != 3 {
					t.Errorf("a store whose Trim told an error: generation %d", x.s.Gen())
				}
				old := x.s
				x.must(x.open())
				want(t, "Trim of the store that was opened", x.trim("u"), api.OK)
				want(t, "Trim of the old one", old.Trim("u"), api.ErrState)
			}
		}
	}
}

// TestBroken (P7.3, P7.4): an error of the disk that Append or Sync told: the store is to be opened again; so also behind a crash.
func TestBroken(t *testing.T) {
	for n := range 4 {
		x := made(t, 8, "s")
		x.must(x.append("a"))
		x.fuse(n)
		e := x.append(letters("b", 200)) // two sectors
		want(t, "Append under a fuse", e, []api.Errno{api.ErrDown, api.OK}[min(n/2, 1)])
		if e == api.OK {
			e = x.sync()
			want(t, "Sync under a fuse", e, []api.Errno{api.ErrDown, api.OK}[min(n/3, 1)])
		}
		if e == api.OK {
			want(t, "Trim, still", x.trim("t"), api.ErrDown)
			continue
		}
		room := x.s.Room()
		for range 2 {
			want(t, "Trim, broken", x.trim("t"), api.ErrState)
			want(t, "Trim, broken, too long", x.trim(letters("t", most+1)), api.ErrState)
			want(t, "Trim, broken, too much", x.trim(letters("t", 1000)), api.ErrState)
			want(t, "Append, broken", x.append("c"), api.ErrState)
			want(t, "Append of nothing, broken", x.append(), api.ErrState)
			want(t, "Sync, broken", x.sync(), api.ErrState)
			if x.s.Gen() != 1 || x.s.Room() != room {
				t.Errorf("broken: %d, %d", x.s.Gen(), x.s.Room())
			}
			x.crash(128, 128)
		}
		old := x.s
		x.must(x.open())
		want(t, "Trim of the store that was opened", x.trim("t"), api.OK)
		want(t, "Trim of the old one", old.Trim("t"), api.ErrState)
	}
}

// TestOrder (R2): of several errors the one that is named first; what is refused ahead of the disk breaks nothing.
func TestOrder(t *testing.T) {
	long, much := letters("a", most+1), letters("a", most)
	d := diskOf(t, 4, "")
	d.Fuse(0)
	want(t, "Make, too long, still", Make(d, long), api.ErrLong)
	want(t, "Make, too much, still", Make(d, much), api.ErrFull)
	want(t, "Make, still", Make(d, ""), api.ErrDown)
	hasNot(t, d, api.ErrDown)
	x := made(t, 4, "s")
	want(t, "Trim, too long", x.trim(long), api.ErrLong)
	want(t, "Trim, too much", x.trim(much), api.ErrFull)
	want(t, "Append, too long", x.append(letters("a", api.MaxRecord+1)), api.ErrLong)
	want(t, "Append, too much", x.append(much), api.ErrFull)
	x.must(x.trim("t"))
	x.fuse(0)
	want(t, "Trim, too long, still", x.trim(long), api.ErrLong)
	want(t, "Trim, too much, still", x.trim(much), api.ErrFull)
	x.crash()
	want(t, "Trim behind these", x.trim("u"), api.OK)
	x.fuse(0)
	want(t, "Trim, still", x.trim("v"), api.ErrDown)
	want(t, "Trim, stuck, too long", x.trim(long), api.ErrState)
	want(t, "Trim, stuck, too much", x.trim(much), api.ErrState)
	want(t, "Append of nothing, still", x.append(), api.OK)
	want(t, "Append, still", x.append("a"), api.ErrDown)
	want(t, "Trim, broken, too long", x.trim(long), api.ErrState)
}

// TestWholeDisk (P7.1 to P7.4): all sectors that there may be, with snapshots and records as long as they may be.
func TestWholeDisk(t *testing.T) {
	x := made(t, api.MaxSectors, letters("s", most))
	record := letters("r", api.MaxRecord)
	want(t, "Append", x.append(record, ""), api.OK)
	want(t, "Append", x.append(record), api.ErrFull)
	want(t, "Sync", x.sync(), api.OK)
	x.crash()
	has(t, x.d, 1, letters("s", most), record, "")
	want(t, "Trim", x.trim(letters("t", most)), api.OK)
	want(t, "Append", x.append(record), api.OK)
	want(t, "Trim", x.trim(""), api.OK)
	has(t, x.d, 3, "")
	want(t, "Make", x.make("new"), api.OK)
	if x.d.Sure() != laid(t, api.MaxSectors, []string{headed(1, "new")}) {
		t.Error("Make left something of what was there")
	}
}

// TestNewMemory (R5): what is told is new memory; a store keeps no list that it is handed in.
func TestNewMemory(t *testing.T) {
	d := diskOf(t, 8, "")
	want(t, "Make", Make(d, "s"), api.OK)
	s := has(t, d, 1, "s")
	texts := []string{"a", "b", "c"}
	want(t, "Append", s.Append(texts...), api.OK)
	texts[0] = "x"
	want(t, "Append", s.Append("d"), api.OK)
	_, _, l, _ := Open(d)
	_, _, again, _ := Open(d)
	l[0] = "y"
	_ = append(l[:1], "z", "z")
	if !slices.Equal(again, []string{"a", "b", "c", "d"}) {
		t.Errorf("an answer changed with another one: %q", again)
	}
	has(t, d, 1, "s", "a", "b", "c", "d")
}

// step is one of a script: a sync, a Trim, or an Append of texts.
type step struct {
	do    string
	texts []string
}

// scripts are steps of a store on a disk of eight sectors, ahead of a crash.
func scripts() [][]step {
	do := func(texts ...string) step { return step{"append", texts} }
	trim := func(snapshot string) step { return step{"trim", []string{snapshot}} }
	sync := step{"sync", nil}
	return [][]step{
		{do("a"), sync, do("b")},
		{do("a"), sync, do("b"), trim("t"), do("c"), sync, do("d")},
		{do("a", "b"), trim("t"), do("c"), trim("u"), do("d"), sync},
		{do(letters("a", 200)), do(letters("b", 110)), trim(letters("t", 200)), do("c"), sync},
		{trim(letters("t", 400)), do("a"), sync, trim(""), do("b"), sync, do("c")},
		{trim("t"), trim("u"), do("a", "", "b"), trim("v"), do("c")},
		{do(headed(9, "x")), sync, trim(headed(8, "y")), do(headed(7, "z")), sync, trim("t")},
	}
}

// known is what P7.5 says of a store: its snapshot, what was synced of its records, and all of them; and the snapshot of a Trim that was not answered.
type known struct {
	snapshot  string
	sure, all []string
	maybe     []string
}

// run does steps up to the first error.
func (k *known) run(s *Store, l []step) api.Errno {
	for _, x := range l {
		if e := k.do(s, x); e != api.OK {
			return e
		}
	}
	return api.OK
}

// do does a step, and notes what comes of it.
func (k *known) do(s *Store, x step) (e api.Errno) {
	switch x.do {
	case "append":
		if e = s.Append(x.texts...); e == api.OK || e == api.ErrDown {
			k.all = append(slices.Clone(k.all), x.texts...)
		}
	case "sync":
		if e = s.Sync(); e == api.OK {
			k.sure = slices.Clone(k.all)
		}
	case "trim":
		if e = s.Trim(x.texts[0]); e == api.OK {
			*k = known{snapshot: x.texts[0]}
		} else if e == api.ErrDown {
			k.maybe = append(k.maybe, x.texts[0])
		}
	}
	return e
}

// holds tells whether what was opened is what there should be.
func (k *known) holds(snapshot string, l []string) bool {
	if len(l) == 0 && slices.Contains(k.maybe, snapshot) {
		return true
	}
	return snapshot == k.snapshot && len(k.sure) <= len(l) && len(l) <= len(k.all) && slices.Equal(l, k.all[:len(l)])
}

// picks are picks for so many loose writes: all that there are of a few kinds, or some that are drawn.
func picks(r *rand.Rand, n int) (l [][]int) {
	kinds := []int{0, 1, 20, 127, 128}
	all := 1
	for range min(n, 3) {
		all *= len(kinds)
	}
	for i := range all {
		p := make([]int, n)
		for k := range p {
			if n > 3 {
				p[k] = kinds[r.Intn(len(kinds))]
				continue
			}
			p[k] = kinds[i%len(kinds)]
			i /= len(kinds)
		}
		l = append(l, p)
	}
	return l
}

// somePicks are picks that are drawn, for so many loose writes, or fewer.
func somePicks(r *rand.Rand, n int) []int {
	l := make([]int, r.Intn(n+1))
	for i := range l {
		l[i] = []int{-1, 0, 1, 5, 64, 126, 127, 128, 129, r.Intn(129), r.Intn(129), 128, 128, 0}[r.Intn(14)]
	}
	return l
}

// TestCrash (P7.5): behind any call of the disk, whatever becomes of what was loose, there is what was told; and it stays so.
func TestCrash(t *testing.T) {
	r := rand.New(rand.NewSource(3))
	for i, script := range scripts() {
		for fuse, done := 0, false; !done; fuse++ {
			if fuse > 99 {
				t.Fatalf("script %d comes to no end", i)
			}
			begin := func() (*sector.Disk, *known) {
				d := diskOf(t, 9, laid(t, 9, []string{headed(4, "s")}, []string{headed(3, "old"), letters("o", 200)}))
				s := has(t, d, 4, "s")
				k := &known{snapshot: "s"}
				d.Fuse(fuse)
				done = k.run(s, script) == api.OK
				return d, k
			}
			d, _ := begin()
			for _, p := range picks(r, d.Loose()) {
				d, k := begin()
				d.Crash(p...)
				crashed := d.Sure()
				s, snapshot, l, e := Open(d)
				if e != api.OK || !k.holds(snapshot, l) {
					t.Fatalf("script %d, a fuse of %d, picks %v: %q, %q, %v; want %+v", i, fuse, p, snapshot, l, e, k)
				}
				d.Crash(picks(r, 5)[0]...)
				has(t, d, s.Gen(), snapshot, l...)
				midst(t, r, crashed, s.Gen(), snapshot, l)
			}
		}
	}
}

// midst crashes in the midst of an Open of a disk that has these bytes for good, whose store is that.
func midst(t *testing.T, r *rand.Rand, text string, gen uint64, snapshot string, records []string) {
	t.Helper()
	for fuse := range 9 {
		d := diskOf(t, 9, text)
		d.Fuse(fuse)
		if s, x, l, e := Open(d); e == api.OK {
			if s.Gen() != gen || x != snapshot || !slices.Equal(l, records) {
				t.Fatalf("Open, a fuse of %d: %d, %q, %q", fuse, s.Gen(), x, l)
			}
		} else if e != api.ErrDown || s != nil || x != "" || l != nil {
			t.Fatalf("Open, a fuse of %d: %v, %q, %q, %v", fuse, s, x, l, e)
		}
		d.Crash(somePicks(r, d.Loose())...)
		has(t, d, gen, snapshot, records...)
	}
}

// TestCrashTwice (P7.5): stores that are opened, go on, trim and crash, again and again.
func TestCrashTwice(t *testing.T) {
	r := rand.New(rand.NewSource(4))
	for range 300 {
		d := diskOf(t, 8, "")
		want(t, "Make", Make(d, "s"), api.OK)
		k := &known{snapshot: "s"}
		gen := uint64(1)
		for range 20 {
			s, snapshot, l, e := Open(d)
			for e == api.ErrDown { // a crash in its midst
				d.Crash(somePicks(r, d.Loose())...)
				d.Fuse(r.Intn(12))
				s, snapshot, l, e = Open(d)
			}
			if e != api.OK || !k.holds(snapshot, l) || s.Gen() < gen {
				t.Fatalf("Open: %d, %q, %q, %v; want %+v", s.Gen(), snapshot, l, e, k)
			}
			*k = known{snapshot: snapshot, sure: l, all: slices.Clone(l)}
			d.Fuse(r.Intn(14))
			for range r.Intn(8) {
				x := step{do: []string{"append", "append", "sync", "trim"}[r.Intn(4)], texts: []string{drawn(r, r.Intn(150))}}
				if e := k.do(s, x); e == api.ErrDown {
					break
				}
			}
			gen = s.Gen()
			d.Crash(somePicks(r, d.Loose())...)
			if r.Intn(2) == 0 {
				d.Fuse(r.Intn(12))
			}
		}
	}
}

// steps does what the bytes say, one call behind the other, and holds each against the chapter's words.
func steps(x *pair, script []byte) {
	x.t.Helper()
	next := func() int {
		if len(script) == 0 {
			return 0
		}
		b := script[0]
		script = script[1:]
		return int(b)
	}
	text := func() string { return letters(string([]byte{byte(next())}), next()) }
	for len(script) > 0 {
		switch do := next() % 20; do {
		case 0:
			x.make(text())
		case 1, 2:
			x.open()
		case 3:
			x.fuse(next() % 16)
		case 4, 5:
			var picks []int
			for range next() % 8 {
				picks = append(picks, next()-64)
			}
			x.crash(picks...)
		case 6: // somebody writes what is no store's
			k, s := next()%x.d.Len(), text()
			x.end("Write", x.d.Write(k, s), x.twin.Write(k, s))
		default:
			switch {
			case x.s == nil:
				if x.open() == api.ErrNothing {
					x.make(text())
				}
			case do < 9:
				x.sync()
			case do < 13:
				x.trim(text())
			default:
				var texts []string
				for range next() % 4 {
					texts = append(texts, text())
				}
				x.append(texts...)
			}
		}
	}
}

// TestDrawn (P7.1 to P7.4, R6): calls that are drawn, one behind the other, twice the same.
func TestDrawn(t *testing.T) {
	r := rand.New(rand.NewSource(5))
	for range 1000 {
		script := []byte(drawn(r, r.Intn(400)))
		sectors := 1 + r.Intn(12)
		a, b := newPair(t, sectors, ""), newPair(t, sectors, "")
		steps(a, script)
		steps(b, script)
		if a.d.Sure() != b.d.Sure() || a.d.Loose() != b.d.Loose() {
			t.Fatal("the same calls made two disks")
		}
	}
}

// FuzzHead (P7.2): any first record is a head as the chapter tells it, or none.
func FuzzHead(f *testing.F) {
	for _, v := range heads() {
		if len(v.record) < 200 {
			f.Add(v.record)
		}
	}
	f.Fuzz(func(t *testing.T, record string) {
		gen, snapshot, ok := plainHead(record)
		if h, is := headOf(record); is != ok || ok && (h.gen != gen || h.snapshot != snapshot) || !is && h != (head{}) {
			t.Errorf("%q: %d, %q, %v; want %d, %q, %v", record, h.gen, h.snapshot, is, gen, snapshot, ok)
		}
	})
}

// FuzzStore (P7.1 to P7.4): any calls, one behind the other.
func FuzzStore(f *testing.F) {
	f.Add(9, []byte{0, 's', 1, 1, 13, 1, 'a', 1, 7, 13, 1, 'b', 1, 4, 1, 192, 1, 9, 't', 1, 13, 1, 'c', 1, 7, 4, 0, 1})
	f.Add(6, []byte{0, 's', 90, 1, 3, 4, 9, 't', 200, 9, 'u', 1, 4, 3, 192, 192, 80, 13, 1, 'a', 1, 1, 9, 'v', 1})
	f.Fuzz(func(t *testing.T, sectors int, script []byte) {
		steps(newPair(t, 1+sectors&31, ""), script)
	})
}

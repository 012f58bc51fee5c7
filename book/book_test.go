package book

import (
	"encoding/binary"
	"hash/crc32"
	"math"
	"math/rand"
	"slices"
	"strings"
	"testing"
	"unsafe"

	"thresher/api"
	"thresher/frame"
	"thresher/sector"
)

// framed is the frame of a tag and a text, as layer 4 tells it.
func framed(tag uint8, text string) string {
	s := string([]byte{1, tag}) + string(binary.AppendUvarint(nil, uint64(len(text)))) + text
	return s + string(binary.LittleEndian.AppendUint32(nil, crc32.Checksum([]byte(s), crc32.MakeTable(crc32.Castagnoli))))
}

// rows is the frames of records, one behind the other.
func rows(texts ...string) string {
	var b strings.Builder
	for _, t := range texts {
		b.WriteString(framed(1, t))
	}
	return b.String()
}

// zeros is n bytes 0.
func zeros(n int) string { return strings.Repeat("\x00", n) }

// letters is n bytes, all of them that letter.
func letters(letter string, n int) string { return strings.Repeat(letter, n) }

// drawn is a text of n bytes that are drawn.
func drawn(r *rand.Rand, n int) string {
	b := make([]byte, n)
	r.Read(b)
	return string(b)
}

// filling is a record whose frame has n bytes.
func filling(n int) string {
	for k := n - 7; k >= 0; k-- {
		if len(framed(1, letters("f", k))) == n {
			return letters("f", k)
		}
	}
	panic("no frame has so many bytes")
}

// plainSector is sector k as a stream makes it.
func plainSector(stream string, k int) string {
	s := stream[min(127*k, len(stream)):min(127*k+127, len(stream))]
	return s + zeros(127-len(s)) + string([]byte{byte(len(s))})
}

// plainStream is the stream of sectors.
func plainStream(sectors []string) (s string) {
	for _, x := range sectors {
		n := int(x[127])
		if n > 127 {
			n = 0
		}
		s += x[:n]
		if n < 127 {
			return s
		}
	}
	return s
}

// plainRecords is the records of a stream, and what is good.
func plainRecords(stream string) (l []string, good string) {
	for good != stream {
		f, n, e := frame.Read(stream[len(good):], 131072)
		if e != api.OK || f.Tag != 1 {
			break
		}
		l, good = append(l, f.Text), stream[:len(good)+n]
	}
	return l, good
}

// plainBook is a book as the chapter's words tell it: its stream, all of it.
type plainBook struct {
	d       *sector.Disk
	from, n int
	stream  string
	broken  bool
}

// plainFault is why there is no part of a disk.
func plainFault(d *sector.Disk, from, n int) api.Errno {
	if d.Len() == 0 {
		return api.ErrNil
	}
	if from < 0 || n < 1 || from > d.Len() || n > d.Len() || from+n > d.Len() {
		return api.ErrArg
	}
	return api.OK
}

// read reads the sectors, in order.
func (p *plainBook) read() (l []string, e api.Errno) {
	for k := range p.n {
		s, e := p.d.Read(p.from + k)
		if e != api.OK {
			return nil, e
		}
		l = append(l, s)
	}
	return l, api.OK
}

// anew makes the sectors anew, as the two steps tell it.
func (p *plainBook) anew(l []string, stream string) api.Errno {
	for step := range 2 {
		wrote := false
		for k := range p.n {
			want := plainSector(stream, k)
			if step == 0 {
				want = l[k][:127] + want[127:]
			}
			if l[k] == want {
				continue
			}
			if e := p.d.Write(p.from+k, want); e != api.OK {
				return e
			}
			l[k], wrote = want, true
		}
		if wrote {
			if e := p.d.Sync(); e != api.OK {
				return e
			}
		}
	}
	return api.OK
}

func plainClear(d *sector.Disk, from, n int) api.Errno {
	if e := plainFault(d, from, n); e != api.OK {
		return e
	}
	p := &plainBook{d: d, from: from, n: n}
	l, e := p.read()
	if e != api.OK {
		return e
	}
	return p.anew(l, "")
}

func plainOpen(d *sector.Disk, from, n int) (*plainBook, []string, api.Errno) {
	if e := plainFault(d, from, n); e != api.OK {
		return nil, nil, e
	}
	p := &plainBook{d: d, from: from, n: n}
	l, e := p.read()
	if e != api.OK {
		return nil, nil, e
	}
	var records []string
	records, p.stream = plainRecords(plainStream(l))
	if e := p.anew(l, p.stream); e != api.OK {
		return nil, nil, e
	}
	return p, records, api.OK
}

func (p *plainBook) append(texts ...string) api.Errno {
	if p.broken {
		return api.ErrState
	}
	for _, t := range texts {
		if len(t) > 131072 {
			return api.ErrLong
		}
	}
	was := p.stream
	if more := rows(texts...); len(was)+len(more) > 127*p.n {
		return api.ErrFull
	} else {
		p.stream += more
	}
	for k := range p.n {
		if plainSector(p.stream, k) == plainSector(was, k) {
			continue
		}
		if e := p.d.Write(p.from+k, plainSector(p.stream, k)); e != api.OK {
			p.broken = true
			return e
		}
	}
	return api.OK
}

func (p *plainBook) sync() api.Errno {
	if p.broken {
		return api.ErrState
	}
	e := p.d.Sync()
	p.broken = e != api.OK
	return e
}

// pair is two disks to which the same is done: on one there is a book, on the other one what it should be.
type pair struct {
	t       *testing.T
	d, twin *sector.Disk
	from, n int
	b       *Book
	p       *plainBook
}

// newPair is disks of so many sectors, that have that text for good from their first byte on; no book is open.
func newPair(t *testing.T, sectors, from, n int, text string) *pair {
	t.Helper()
	x := &pair{t: t, d: diskOf(t, sectors, text), twin: diskOf(t, sectors, text), from: from, n: n}
	x.same()
	return x
}

// diskOf is a disk of so many sectors, that has that text for good from its first byte on.
func diskOf(t *testing.T, sectors int, text string) *sector.Disk {
	t.Helper()
	d, e := sector.New(sectors)
	if e != api.OK {
		t.Fatalf("New(%d): %v", sectors, e)
	}
	for k := 0; len(text) > 0; k++ {
		n := min(len(text), 128)
		if e := d.Write(k, text[:n]); e != api.OK {
			t.Fatalf("Write(%d): %v", k, e)
		}
		text = text[n:]
	}
	if e := d.Sync(); e != api.OK {
		t.Fatalf("Sync: %v", e)
	}
	return d
}

// open is a disk of so many sectors with a book on some of them.
func open(t *testing.T, sectors, from, n int) (*sector.Disk, *Book) {
	t.Helper()
	d := diskOf(t, sectors, "")
	b, l, e := Open(d, from, n)
	if e != api.OK || b == nil || len(l) != 0 {
		t.Fatalf("Open(%d, %d): %q, %v", from, n, l, e)
	}
	return d, b
}

// same holds the disk against its twin, and what the book tells of itself against what it should be.
func (x *pair) same() {
	x.t.Helper()
	if x.d.Loose() != x.twin.Loose() || x.d.Sure() != x.twin.Sure() {
		x.t.Fatalf("%d loose, %q; want %d, %q", x.d.Loose(), x.d.Sure(), x.twin.Loose(), x.twin.Sure())
	}
	for k := range x.d.Len() {
		s, e := x.d.Read(k)
		if want, wantE := x.twin.Read(k); s != want || e != wantE {
			x.t.Fatalf("sector %d is %q, %v; want %q, %v", k, s, e, want, wantE)
		}
	}
	if x.p == nil {
		return
	}
	if x.b.Len() != len(x.p.stream) || x.b.Room() != 127*x.n-len(x.p.stream) {
		x.t.Fatalf("Len, Room: %d, %d; want %d, %d", x.b.Len(), x.b.Room(), len(x.p.stream), 127*x.n-len(x.p.stream))
	}
}

// end holds an answer against what is wanted, and all else.
func (x *pair) end(what string, e, want api.Errno) api.Errno {
	x.t.Helper()
	if e != want {
		x.t.Fatalf("%s: %v, want %v", what, e, want)
	}
	x.same()
	return e
}

func (x *pair) clear() api.Errno {
	x.t.Helper()
	return x.end("Clear", Clear(x.d, x.from, x.n), plainClear(x.twin, x.from, x.n))
}

func (x *pair) open() ([]string, api.Errno) {
	x.t.Helper()
	b, l, e := Open(x.d, x.from, x.n)
	p, want, wantE := plainOpen(x.twin, x.from, x.n)
	if !slices.Equal(l, want) || (b == nil) != (p == nil) {
		x.t.Fatalf("Open: %q, want %q", l, want)
	}
	x.b, x.p = b, p
	return l, x.end("Open", e, wantE)
}

func (x *pair) append(texts ...string) api.Errno {
	x.t.Helper()
	return x.end("Append", x.b.Append(texts...), x.p.append(texts...))
}

func (x *pair) sync() api.Errno {
	x.t.Helper()
	return x.end("Sync", x.b.Sync(), x.p.sync())
}

func (x *pair) fuse(n int) {
	x.t.Helper()
	x.end("Fuse", x.d.Fuse(n), x.twin.Fuse(n))
}

func (x *pair) crash(picks ...int) {
	x.t.Helper()
	x.end("Crash", x.d.Crash(picks...), x.twin.Crash(picks...))
}

// want holds an answer against what is wanted.
func want(t *testing.T, what string, e, wanted api.Errno) {
	t.Helper()
	if e != wanted {
		t.Errorf("%s: %v, want %v", what, e, wanted)
	}
}

// TestExamples: the chapter's, as they stand there.
func TestExamples(t *testing.T) {
	for _, x := range []struct {
		picks []int
		want  []string
	}{{nil, []string{"a", "b"}}, {[]int{128}, []string{"a", "b", "c"}}} {
		d, b := open(t, 2, 0, 2)
		want(t, "Append(a, b)", b.Append("a", "b"), api.OK)
		want(t, "Sync", b.Sync(), api.OK)
		want(t, "Append(c)", b.Append("c"), api.OK)
		d.Crash(x.picks...)
		if _, l, e := Open(d, 0, 2); e != api.OK || !slices.Equal(l, x.want) {
			t.Errorf("Crash(%v): %q, %v; want %q", x.picks, l, e, x.want)
		}
	}
}

// TestNone (P6.1 to P6.3, R3): without a disk, or a book, nothing is told, and nothing is done; that is asked ahead of all else.
func TestNone(t *testing.T) {
	for _, d := range []*sector.Disk{nil, {}, new(sector.Disk)} {
		for _, at := range [][2]int{{0, 1}, {0, 0}, {-1, 1}, {0, -1}, {1, 1}, {math.MaxInt, math.MaxInt}, {math.MinInt, math.MinInt}} {
			want(t, "Clear of no disk", Clear(d, at[0], at[1]), api.ErrNil)
			if b, l, e := Open(d, at[0], at[1]); b != nil || l != nil || e != api.ErrNil {
				t.Errorf("Open of no disk: %v, %q, %v", b, l, e)
			}
		}
	}
	for _, b := range []*Book{nil, {}, new(Book)} {
		for range 2 {
			want(t, "Append", b.Append(), api.ErrNil)
			want(t, "Append", b.Append("a", "b"), api.ErrNil)
			want(t, "Append, too long", b.Append(zeros(131073)), api.ErrNil)
			want(t, "Sync", b.Sync(), api.ErrNil)
			if b.Len() != 0 || b.Room() != 0 {
				t.Errorf("no book: %d, %d", b.Len(), b.Room())
			}
		}
	}
}

// TestPart (P6.1, P6.2): all parts that a disk has, and those that it has not; these change nothing, also where it stands still.
func TestPart(t *testing.T) {
	text := letters("abcdefg\x7f", 4*16)
	for from := -2; from < 7; from++ {
		for n := -2; n < 7; n++ {
			x := newPair(t, 4, from, n, text)
			x.clear()
			x = newPair(t, 4, from, n, text)
			x.open()
		}
	}
	for _, at := range [][2]int{{0, 0}, {3, 0}, {4, 0}, {4, 1}, {5, 1}, {0, 5}, {1, 4}, {-1, 1}, {-1, 4}, {0, -1}, {5, -1},
		{1, math.MaxInt}, {math.MaxInt, 1}, {math.MaxInt, math.MaxInt}, {0, math.MaxInt}, {math.MinInt, 1}, {math.MinInt, math.MinInt}, {math.MinInt, math.MaxInt}, {1, math.MinInt}, {-1, math.MaxInt}} {
		for _, still := range []bool{false, true} {
			d := diskOf(t, 4, text)
			d.Write(0, "loose")
			if still {
				d.Fuse(0)
			}
			sure := d.Sure()
			want(t, "Clear", Clear(d, at[0], at[1]), api.ErrArg)
			if b, l, e := Open(d, at[0], at[1]); b != nil || l != nil || e != api.ErrArg {
				t.Errorf("Open(%d, %d): %v, %q, %v", at[0], at[1], b, l, e)
			}
			if d.Sure() != sure || d.Loose() != 1 {
				t.Errorf("Open(%d, %d) changed the disk", at[0], at[1])
			}
		}
	}
}

// TestClear (P6.1): whatever stands there, a book without records is behind it, for good; other sectors stay as they are.
func TestClear(t *testing.T) {
	r := rand.New(rand.NewSource(1))
	for range 200 {
		text := drawn(r, 5*128)
		x := newPair(t, 5, 1, 3, text)
		want(t, "Clear", x.clear(), api.OK)
		if s := x.d.Sure(); s != text[:128]+zeros(3*128)+text[4*128:] || x.d.Loose() != 0 {
			t.Fatalf("behind Clear: %q, %d loose", s, x.d.Loose())
		}
		if l, e := x.open(); len(l) != 0 || e != api.OK || x.b.Len() != 0 || x.b.Room() != 3*127 {
			t.Errorf("behind Clear: %q, %v, %d, %d", l, e, x.b.Len(), x.b.Room())
		}
	}
}

// TestClearCalls (P6.1): counts ahead of the rest, each with a sync behind it, if there was something to be written; nothing else.
func TestClearCalls(t *testing.T) {
	count := func(c byte) string { return zeros(127) + string([]byte{c}) }
	for _, v := range []struct {
		text  string
		calls int
	}{
		{"", 0},
		{count(1), 2},
		{count(255), 2},
		{"a", 2},
		{zeros(126) + "a", 2},
		{letters("a", 128), 4},
		{letters("a", 256), 6},
		{"a" + zeros(127) + count(9), 4},
		{count(9) + "a", 4},
		{count(9) + count(9) + "a", 5},
	} {
		for n := range v.calls + 2 {
			x := newPair(t, 4, 0, 3, v.text)
			x.fuse(n)
			wanted := api.OK
			if n < v.calls || n == 0 {
				wanted = api.ErrDown
			}
			want(t, "Clear under a fuse", x.clear(), wanted)
			if n > v.calls {
				want(t, "the call behind Clear", x.d.Write(3, "a"), api.OK)
				want(t, "the next one", x.d.Write(3, "a"), []api.Errno{api.ErrDown, api.OK}[min(n-v.calls-1, 1)])
			}
		}
	}
}

// streams are streams, and which records they have.
func streams() []struct {
	stream string
	want   []string
} {
	long := letters("l", 200)
	broken := []byte(framed(1, "broken"))
	broken[5] ^= 1
	return []struct {
		stream string
		want   []string
	}{
		{"", nil},
		{"\x00", nil},
		{"\x01", nil},
		{"\x02", nil},
		{rows(""), []string{""}},
		{rows("", "", ""), []string{"", "", ""}},
		{rows("a", "bc"), []string{"a", "bc"}},
		{rows("a") + "\x00" + rows("b"), []string{"a"}},
		{rows("a") + "\x01", []string{"a"}},
		{rows("a") + "\x03" + rows("b"), []string{"a"}},
		{rows("a", long, "b"), []string{"a", long, "b"}},
		{rows("a", long)[:100], []string{"a"}},
		{rows("a") + framed(2, "b") + rows("c"), []string{"a"}},
		{framed(0, "a") + rows("b"), nil},
		{framed(255, "a"), nil},
		{rows("a") + framed(2, long) + rows("c"), []string{"a"}},
		{rows("a") + string(broken) + rows("c"), []string{"a"}},
		{string(broken) + rows("c"), nil},
		{rows("a") + string(broken) + framed(2, "b"), []string{"a"}},
		{rows("a", long) + framed(3, "") + rows(long), []string{"a", long}},
		{rows(filling(127)), []string{filling(127)}},
		{rows(filling(126)), []string{filling(126)}},
		{rows(filling(128)), []string{filling(128)}},
		{rows(filling(254)), []string{filling(254)}},
		{rows(filling(120), filling(7)), []string{filling(120), filling(7)}},
		{rows(filling(127), "a"), []string{filling(127), "a"}},
		{rows(filling(127)) + framed(2, "a"), []string{filling(127)}},
		{rows(filling(127), filling(127)), []string{filling(127), filling(127)}},
		{rows(filling(100), filling(100)), []string{filling(100), filling(100)}},
		{rows("\x00\x01\xff"), []string{"\x00\x01\xff"}},
		{rows(rows("a", "b")), []string{rows("a", "b")}},
	}
}

// laid is n sectors as a stream makes them.
func laid(stream string, n int) (s string) {
	for k := range n {
		s += plainSector(stream, k)
	}
	return s
}

// TestOpen (P6.2): records of streams of all kinds; behind it just what is good is there, for good.
func TestOpen(t *testing.T) {
	for _, v := range streams() {
		x := newPair(t, 5, 1, 3, zeros(128)+laid(v.stream, 3)+letters("z", 128))
		l, e := x.open()
		if e != api.OK || !slices.Equal(l, v.want) {
			t.Errorf("Open of %q: %q, %v; want %q", v.stream, l, e, v.want)
		}
		good := rows(v.want...)
		if s := x.d.Sure(); s != zeros(128)+laid(good, 3)+letters("z", 128) || x.d.Loose() != 0 {
			t.Errorf("behind Open of %q: %q, %d loose", v.stream, s, x.d.Loose())
		}
		if x.b.Len() != len(good) || x.b.Room() != 3*127-len(good) {
			t.Errorf("Open of %q: Len %d, Room %d", v.stream, x.b.Len(), x.b.Room())
		}
		again, e := x.open()
		if e != api.OK || !slices.Equal(again, v.want) {
			t.Errorf("the second Open of %q: %q, %v", v.stream, again, e)
		}
		x.append("behind")
		want(t, "Sync", x.sync(), api.OK)
		if l, e := x.open(); e != api.OK || !slices.Equal(l, append(slices.Clone(v.want), "behind")) {
			t.Errorf("Append behind Open of %q: %q, %v", v.stream, l, e)
		}
	}
}

// TestOpenCounts (P6.2): each count, full or not; a stream ends with the first sector that is not full, whatever stands behind.
func TestOpenCounts(t *testing.T) {
	texts := []string{filling(120), filling(7), filling(127), "end"}
	stream := rows(texts...)
	for k := range 3 {
		for c := range 256 {
			b := []byte(laid(stream, 3))
			b[128*k+127] = byte(c)
			x := newPair(t, 4, 0, 3, string(b)+letters("\x7f", 128))
			l, e := x.open()
			n := 127 * k
			if c <= 127 {
				n += c
			}
			if k < 2 && c == 127 {
				n = len(stream)
			}
			wanted, good := plainRecords((stream + zeros(127))[:n])
			if e != api.OK || !slices.Equal(l, wanted) || x.b.Len() != len(good) {
				t.Errorf("count %d of sector %d: %q, %v; want %q", c, k, l, e, wanted)
			}
		}
	}
	for c := 7; c <= 127; c++ { // frames that end with what counts of their sector
		x := newPair(t, 3, 0, 3, plainSector(rows(filling(c)), 0)+plainSector(rows("behind"), 0))
		wanted := []string{filling(c), "behind"}[:1+c/127]
		if l, e := x.open(); e != api.OK || !slices.Equal(l, wanted) {
			t.Errorf("a first sector of %d bytes: %q, %v; want %q", c, l, e, wanted)
		}
	}
	for _, first := range []byte{0, 1, 126, 128, 129, 254, 255} {
		b := []byte(laid(rows(filling(127), "behind"), 3))
		b[127] = first
		x := newPair(t, 3, 0, 3, string(b))
		if l, e := x.open(); e != api.OK || len(l) != 0 || x.d.Sure() != zeros(3*128) {
			t.Errorf("a first count of %d: %q, %v", first, l, e)
		}
	}
}

// TestOpenCalls (P6.2): nothing is written, or synced, if the sectors are as the stream makes them, also where writes are loose.
func TestOpenCalls(t *testing.T) {
	for _, v := range streams() {
		good := rows(v.want...)
		x := newPair(t, 3, 0, 3, laid(good, 3))
		x.d.Write(2, plainSector(good, 2))
		x.twin.Write(2, plainSector(good, 2))
		x.fuse(1)
		if l, e := x.open(); e != api.OK || !slices.Equal(l, v.want) || x.d.Loose() != 1 {
			t.Errorf("Open of %q: %q, %v, %d loose", good, l, e, x.d.Loose())
		}
		want(t, "the call behind Open", x.d.Sync(), api.OK)
		want(t, "the next one", x.d.Sync(), api.ErrDown)
	}
}

// TestAppend (P6.3): records of all lengths, one by one and several at once, stand there as they were, and just there.
func TestAppend(t *testing.T) {
	r := rand.New(rand.NewSource(2))
	for n := range 400 {
		text := drawn(r, n)
		x := newPair(t, 8, 2, 5, "")
		x.open()
		for _, l := range [][]string{{}, {""}, {text}, {"b", ""}, nil, {drawn(r, n/3), "c", drawn(r, r.Intn(9))}} {
			kept := slices.Clone(l)
			x.append(l...)
			if !slices.Equal(kept, l) {
				t.Errorf("Append changed its texts: %q, were %q", l, kept)
			}
		}
		x.sync()
		x.open()
	}
}

// TestAppendCalls (P6.3): just the sectors that are other ones are written, in order; nothing is synced.
func TestAppendCalls(t *testing.T) {
	for _, v := range []struct {
		there int
		texts []string
		calls int
	}{
		{0, nil, 0},
		{9, nil, 0},
		{127, nil, 0},
		{0, []string{""}, 1},
		{9, []string{"a"}, 1},
		{9, []string{"a", "b", "c"}, 1},
		{0, []string{filling(127)}, 1},
		{127, []string{"a"}, 1},
		{127, []string{filling(127)}, 1},
		{127, []string{filling(128)}, 2},
		{120, []string{filling(7)}, 1},
		{120, []string{filling(8)}, 2},
		{120, []string{filling(7), ""}, 2},
		{7, []string{filling(120), filling(127)}, 2},
		{7, []string{filling(7 * 127)}, 8},
		{126, []string{filling(7*127 + 1)}, 8},
	} {
		x := newPair(t, 8, 0, 8, "")
		x.open()
		if v.there > 0 {
			x.append(filling(v.there))
		}
		x.sync()
		if e := x.append(v.texts...); e != api.OK || x.d.Loose() != v.calls {
			t.Errorf("Append behind %d bytes: %v, %d loose, want %d", v.there, e, x.d.Loose(), v.calls)
		}
		x.crash(slices.Repeat([]int{128}, v.calls)...)
		x.open()
	}
}

// fill is records whose frames have n bytes in all: one, or two where no frame has so many.
func fill(n int) []string {
	switch {
	case n == 0:
		return nil
	case n == 135: // a length of two bytes begins with a text of 128
		return []string{"", filling(128)}
	}
	return []string{filling(n)}
}

// TestAppendFull (P6.3): frames that just fill the room, whatever was there ahead, in one record or several; one byte more is refused, and changes nothing.
func TestAppendFull(t *testing.T) {
	for n := 1; n < 5; n++ {
		bound := 127 * n
		for _, there := range []int{0, 7, 50, 120, 126, 127, 128, bound - 20, bound - 8, bound - 7, bound - 1, bound} {
			if there > bound {
				continue
			}
			left := bound - there
			x := newPair(t, n+2, 1, n, "")
			x.open()
			want(t, "Append", x.append(fill(there)...), api.OK)
			for _, l := range [][]string{fill(max(left+1, 7)), fill(left + 8), fill(left + 2000), append(fill(max(left, 7)), ""), {"", filling(max(left-6, 7))}, slices.Repeat([]string{""}, left/7+1), {letters("a", 131072)}, {"", letters("a", 131072), letters("a", 131072)}} {
				want(t, "Append of too much", x.append(l...), api.ErrFull)
			}
			if left > 0 && left < 7 {
				continue
			}
			if left >= 14 {
				want(t, "Append of what leaves room for an empty record", x.append(fill(left-7)...), api.OK)
				left = 7
			}
			want(t, "Append of what just fills the room", x.append(fill(left)...), api.OK)
			if x.b.Room() != 0 {
				t.Errorf("Room of a book that is full: %d", x.b.Room())
			}
			want(t, "Append of nothing", x.append(), api.OK)
			want(t, "Append of an empty record", x.append(""), api.ErrFull)
			x.sync()
			x.open()
			want(t, "Append of an empty record", x.append(""), api.ErrFull)
		}
	}
	for _, l := range [][]string{fill(381), {"", "", filling(367)}, {filling(127), filling(127), filling(127)}, {filling(200), filling(181)}, slices.Concat(slices.Repeat([]string{""}, 53), []string{"abc"})} {
		x := newPair(t, 3, 0, 3, "")
		x.open()
		want(t, "Append of what just fills the room", x.append(l...), api.OK)
		x.sync()
		x.open()
	}
}

// TestAppendLong (P6.3): a record of MaxRecord bytes is one; a byte more is too long, whichever it is, also where there is no room.
func TestAppendLong(t *testing.T) {
	record := letters("r", api.MaxRecord)
	long := record + "r"
	d, b := open(t, 1040, 2, 1035)
	for _, l := range [][]string{{long}, {"a", long}, {long, "a"}, {"a", long, "b"}, {record, long}, {long, record, record}, {record, record, record, long}, {letters("r", 1<<20)}} {
		want(t, "Append of a record that is too long", b.Append(l...), api.ErrLong)
	}
	if b.Len() != 0 || d.Loose() != 0 {
		t.Errorf("a record that was refused: %d bytes, %d loose", b.Len(), d.Loose())
	}
	want(t, "Append of two that are too much", b.Append(record, record), api.ErrFull)
	want(t, "Append", b.Append("a"), api.OK)
	want(t, "Append", b.Append(record, "b"), api.OK)
	if b.Len() != 131072+9+8+8 || d.Loose() != 1+1033 {
		t.Errorf("%d bytes, %d loose", b.Len(), d.Loose())
	}
	want(t, "Sync", b.Sync(), api.OK)
	if b, l, e := Open(d, 2, 1035); e != api.OK || b.Len() != 131072+9+8+8 || !slices.Equal(l, []string{"a", record, "b"}) {
		t.Errorf("Open: %d records, %v", len(l), e)
	}
	d = diskOf(t, 1040, laid(rows("a")+framed(1, long)+rows("b"), 1040))
	if _, l, e := Open(d, 0, 1040); e != api.OK || !slices.Equal(l, []string{"a"}) {
		t.Errorf("Open, a frame of too many bytes: %d records, %v", len(l), e)
	}
}

// TestWholeDisk (P6.1 to P6.3): all sectors that there may be.
func TestWholeDisk(t *testing.T) {
	d, b := open(t, api.MaxSectors, 0, api.MaxSectors)
	record := letters("r", api.MaxRecord)
	want(t, "Append", b.Append(record, record), api.OK)
	want(t, "Append", b.Append(record), api.OK)
	want(t, "Append", b.Append(filling(b.Room()-70)), api.OK)
	for range 10 {
		want(t, "Append", b.Append(""), api.OK)
	}
	want(t, "Append", b.Append(""), api.ErrFull)
	want(t, "Sync", b.Sync(), api.OK)
	again, l, e := Open(d, 0, api.MaxSectors)
	if e != api.OK || len(l) != 3+1+10 || again.Len() != 127*api.MaxSectors || l[2] != record {
		t.Errorf("Open: %d records, %d bytes, %v", len(l), again.Len(), e)
	}
	want(t, "Clear", Clear(d, 0, api.MaxSectors), api.OK)
	if d.Sure() != zeros(128*api.MaxSectors) {
		t.Error("Clear of all sectors left something")
	}
}

// TestSync (P6.3): what was appended is for good with the sync, not ahead of it; a sync with nothing loose does no harm.
func TestSync(t *testing.T) {
	x := newPair(t, 3, 0, 3, "")
	x.open()
	want(t, "Sync", x.sync(), api.OK)
	x.append("a")
	if x.d.Sure() != zeros(3*128) {
		t.Error("Append synced")
	}
	want(t, "Sync", x.sync(), api.OK)
	if x.d.Sure() != laid(rows("a"), 3) {
		t.Errorf("behind the sync: %q", x.d.Sure())
	}
	want(t, "Sync", x.sync(), api.OK)
	x.fuse(1)
	want(t, "a sync is the disk's, also with nothing loose", x.sync(), api.OK)
	want(t, "the next one", x.sync(), api.ErrDown)
	want(t, "Sync, broken", x.sync(), api.ErrState)
}

// TestOrder (R2): of several errors the one that is named first.
func TestOrder(t *testing.T) {
	long := zeros(131073)
	x := newPair(t, 2, 0, 2, "")
	x.open()
	x.append("a")
	want(t, "Append, too long, too much", x.append(letters("a", 500), long), api.ErrLong)
	x.fuse(0)
	want(t, "Append, too long, too much, still", x.append(letters("a", 500), long), api.ErrLong)
	want(t, "Append, too much, still", x.append(letters("a", 500)), api.ErrFull)
	want(t, "Append of nothing, still", x.append(), api.OK)
	want(t, "Append, still", x.append("b"), api.ErrDown)
	want(t, "Append, broken, too long", x.append(long), api.ErrState)
	want(t, "Append, broken, too much", x.append(letters("a", 500)), api.ErrState)
	want(t, "Append of nothing, broken", x.append(), api.ErrState)
	want(t, "Sync, broken", x.sync(), api.ErrState)
	want(t, "Clear, still", x.clear(), api.ErrDown)
	if b, l, e := Open(x.d, 0, 2); b != nil || l != nil || e != api.ErrDown {
		t.Errorf("Open, still: %v, %q, %v", b, l, e)
	}
}

// TestBroken (P6.3): an error of the disk, at each of its calls, breaks the book: it stays so, also behind a crash; what was appended counts as its own.
func TestBroken(t *testing.T) {
	texts := []string{"a", letters("b", 300), "c"}
	for _, there := range []int{100, 120, 127, 140} {
		// The frames of texts begin in one sector, and end in the third or fourth one; then there is the sync.
		first, last := there/127, (there+len(rows(texts...))-1)/127
		calls := last - first + 2
		for n := range calls + 2 {
			x := newPair(t, 7, 1, 5, "")
			x.open()
			x.append(fill(there)...)
			x.fuse(n)
			e := x.append(texts...)
			want(t, "Append under a fuse", e, []api.Errno{api.ErrDown, api.OK}[min(n/(calls-1), 1)])
			if e == api.OK {
				e = x.sync()
				want(t, "Sync under a fuse", e, []api.Errno{api.ErrDown, api.OK}[min(n/calls, 1)])
			}
			if e == api.OK {
				continue
			}
			old := there + len(rows(texts...))
			for range 2 {
				want(t, "Append, broken", x.append("d"), api.ErrState)
				want(t, "Append of nothing, broken", x.append(), api.ErrState)
				want(t, "Sync, broken", x.sync(), api.ErrState)
				x.crash(128, 128, 5)
			}
			b := x.b
			x.open()
			want(t, "Append of the book that was opened", x.append("d"), api.OK)
			want(t, "Append of the old one", b.Append("e"), api.ErrState)
			want(t, "Sync of the old one", b.Sync(), api.ErrState)
			if b.Len() != old || b.Room() != 5*127-old {
				t.Errorf("the old one has %d bytes, had %d", b.Len(), old)
			}
		}
	}
}

// TestNotBroken (P6.3): what is refused ahead of the disk breaks no book, nor does an error that another one got.
func TestNotBroken(t *testing.T) {
	x := newPair(t, 4, 0, 2, "")
	x.open()
	other, _, e := Open(x.d, 2, 2)
	want(t, "Open", e, api.OK)
	x.append(zeros(131073))
	x.append(letters("a", 500))
	x.fuse(0)
	want(t, "Append of the other one", other.Append("a"), api.ErrDown)
	x.crash()
	want(t, "Append", x.append("a"), api.OK)
	want(t, "Sync", x.sync(), api.OK)
	want(t, "Sync of the other one", other.Sync(), api.ErrState)
}

// TestBooks: two books side by side on one disk have nothing in common.
func TestBooks(t *testing.T) {
	d, a := open(t, 6, 0, 3)
	b, l, e := Open(d, 3, 3)
	if e != api.OK || len(l) != 0 {
		t.Fatalf("Open: %q, %v", l, e)
	}
	var inA, inB []string
	for i := range 30 {
		s := letters(string(rune('a'+i)), i)
		if i%3 == 0 {
			if a.Append(s) == api.OK {
				inA = append(inA, s)
			}
		} else if b.Append(s) == api.OK {
			inB = append(inB, s)
		}
	}
	want(t, "Sync", a.Sync(), api.OK)
	d.Crash()
	for from, wanted := range map[int][]string{0: inA, 3: inB} {
		if _, l, e := Open(d, from, 3); e != api.OK || !slices.Equal(l, wanted) {
			t.Errorf("the book from %d: %q, %v; want %q", from, l, e, wanted)
		}
	}
	want(t, "Clear", Clear(d, 0, 3), api.OK)
	if _, l, e := Open(d, 3, 3); e != api.OK || !slices.Equal(l, inB) {
		t.Errorf("behind Clear of its neighbour: %q, %v", l, e)
	}
}

// step is one of a script: a sync, or an Append of texts.
type step struct {
	sync  bool
	texts []string
}

// scripts are steps of a book of four sectors, ahead of a crash.
func scripts() [][]step {
	do := func(texts ...string) step { return step{texts: texts} }
	sync := step{sync: true}
	return [][]step{
		{do("a", "b"), sync, do("c")},
		{do("a"), do("b"), do("c"), sync},
		{do("a", "b", "c", filling(127), "d")},
		{do(filling(127)), sync, do(filling(127)), do(filling(127), "e")},
		{do(filling(120)), sync, do(filling(7), filling(7), ""), sync, do(filling(120))},
		{do(filling(300)), do("", ""), sync, do(filling(120))},
		{do(filling(254)), sync, do("x"), do(filling(126)), do(filling(30))},
		{do("a"), sync, do(filling(4*127 - 8)), sync},
		{do("a"), do(filling(119)), do(filling(127)), do("z")},
	}
}

// run does steps up to the first error; what was there at the last sync, and all that was appended.
func run(b *Book, l []step) (sure, all []string) {
	for _, s := range l {
		e := api.OK
		if s.sync {
			e = b.Sync()
		} else {
			all = append(all, s.texts...)
			e = b.Append(s.texts...)
		}
		if e != api.OK {
			break
		}
		if s.sync {
			sure = slices.Clone(all)
		}
	}
	return sure, all
}

// begins tells whether a list is a beginning of all, and sure a beginning of it.
func begins(l, sure, all []string) bool {
	return len(l) <= len(all) && slices.Equal(l, all[:len(l)]) && len(sure) <= len(l)
}

// picks are picks for so many loose writes: all that there are of a few kinds, or some that are drawn.
func picks(r *rand.Rand, n int) (l [][]int) {
	kinds := []int{0, 1, 20, 127, 128}
	all := 1
	for range min(n, 4) {
		all *= len(kinds)
	}
	for i := range all {
		p := make([]int, n)
		for k := range p {
			if n > 4 {
				p[k] = kinds[r.Intn(len(kinds))]
				continue
			}
			p[k] = kinds[i%len(kinds)]
			i /= len(kinds)
		}
		l = append(l, p)
	}
	return l
}

// TestCrash (P6.4): behind any call of the disk, whatever becomes of what was loose, there is what was synced, and a beginning of the rest; what an Open told stays.
func TestCrash(t *testing.T) {
	r := rand.New(rand.NewSource(3))
	for i, script := range scripts() {
		for fuse := range 12 {
			d, b := open(t, 6, 1, 4)
			d.Fuse(fuse)
			run(b, script)
			for _, p := range picks(r, d.Loose()) {
				d, b := open(t, 6, 1, 4)
				d.Fuse(fuse)
				sure, all := run(b, script)
				d.Crash(p...)
				crashed := d.Sure()
				_, l, e := Open(d, 1, 4)
				if e != api.OK || !begins(l, sure, all) {
					t.Fatalf("script %d, a fuse of %d, picks %v: %q, %v; all are %q, %q was synced", i, fuse, p, l, e, all, sure)
				}
				d.Crash(picks(r, 5)[0]...)
				if _, again, e := Open(d, 1, 4); e != api.OK || !slices.Equal(again, l) {
					t.Fatalf("script %d, a fuse of %d, picks %v: %q, then %q, %v", i, fuse, p, l, again, e)
				}
				if r.Intn(6) == 0 {
					midst(t, r, crashed, l)
				}
			}
		}
	}
}

// midst crashes in the midst of an Open, or a Clear, of a disk that has these bytes for good, of whose sectors 1 to 4 a book has these records.
func midst(t *testing.T, r *rand.Rand, text string, records []string) {
	t.Helper()
	for fuse := range 12 {
		d := diskOf(t, 6, text)
		d.Fuse(fuse)
		_, l, e := Open(d, 1, 4)
		if e != api.OK && (e != api.ErrDown || l != nil) || e == api.OK && !slices.Equal(l, records) {
			t.Fatalf("Open, a fuse of %d: %q, %v; want %q", fuse, l, e, records)
		}
		p := somePicks(r, d.Loose())
		d.Crash(p...)
		if _, l, e := Open(d, 1, 4); e != api.OK || !slices.Equal(l, records) {
			t.Fatalf("behind a crash in the midst of an Open, a fuse of %d, picks %v: %q, %v; want %q", fuse, p, l, e, records)
		}
		d = diskOf(t, 6, text)
		d.Fuse(fuse)
		e = Clear(d, 1, 4)
		p = somePicks(r, d.Loose())
		d.Crash(p...)
		if _, l, e2 := Open(d, 1, 4); e2 != api.OK || !begins(l, nil, records) || e == api.OK && len(l) != 0 {
			t.Fatalf("behind a crash in the midst of a Clear (%v), a fuse of %d, picks %v: %q, %v; had %q", e, fuse, p, l, e2, records)
		}
		if d.Sure()[:128] != text[:128] || d.Sure()[5*128:] != text[5*128:] {
			t.Fatal("other sectors were written")
		}
	}
}

// somePicks are picks that are drawn, for so many loose writes, or fewer.
func somePicks(r *rand.Rand, n int) []int {
	l := make([]int, r.Intn(n+1))
	for i := range l {
		l[i] = []int{-1, 0, 1, 5, 64, 126, 127, 128, 129, r.Intn(129), r.Intn(129), 128, 128, 0}[r.Intn(14)]
	}
	return l
}

// TestCrashRubbish (P6.4): an Open of any bytes, crashed in its midst, has the records that it had; a Clear a beginning of them.
func TestCrashRubbish(t *testing.T) {
	r := rand.New(rand.NewSource(4))
	for _, v := range streams() {
		for range 20 {
			b := []byte(drawn(r, 128) + laid(v.stream, 4) + drawn(r, 128))
			end := len(v.stream) / 127
			for k := end; k < 4; k++ {
				at := 128 * (k + 1)
				if k > end {
					copy(b[at:at+128], drawn(r, 128))
					b[at+127] = byte([]int{0, 1, 126, 127, 127, 128, 255}[r.Intn(7)])
				} else {
					copy(b[at+len(v.stream)%127:at+127], drawn(r, 128))
				}
			}
			midst(t, r, string(b), v.want)
		}
	}
}

// TestCrashTwice (P6.4): books that are opened, go on, and crash, again and again.
func TestCrashTwice(t *testing.T) {
	r := rand.New(rand.NewSource(5))
	for range 400 {
		d := diskOf(t, 6, "")
		var sure, all []string
		for range 12 {
			b, l, e := Open(d, 1, 4)
			for e != api.OK { // a crash in its midst
				d.Crash(somePicks(r, d.Loose())...)
				d.Fuse(r.Intn(12))
				b, l, e = Open(d, 1, 4)
			}
			if !begins(l, sure, all) {
				t.Fatalf("Open: %q; all are %q, %q was synced", l, all, sure)
			}
			sure, all = l, slices.Clone(l)
			d.Fuse(r.Intn(9))
			for range r.Intn(6) {
				texts := slices.Repeat([]string{drawn(r, r.Intn(90)), drawn(r, r.Intn(9))}, r.Intn(3))
				switch e := b.Append(texts...); e {
				case api.OK, api.ErrDown:
					all = append(all, texts...)
				}
				if r.Intn(3) == 0 && b.Sync() == api.OK {
					sure = slices.Clone(all)
				}
			}
			d.Crash(somePicks(r, d.Loose())...)
			if r.Intn(2) == 0 {
				d.Fuse(r.Intn(12))
			}
		}
	}
}

// inside tells whether a text stands in another one's memory.
func inside(text, s string) bool {
	at, from := uintptr(unsafe.Pointer(unsafe.StringData(text))), uintptr(unsafe.Pointer(unsafe.StringData(s)))
	return at >= from && at < from+uintptr(len(s))
}

// TestNewMemory (R5): records are new memory; a book keeps nothing of what it was handed in, nor its list.
func TestNewMemory(t *testing.T) {
	d, b := open(t, 8, 0, 8)
	texts := []string{letters("a", 100), letters("b", 200), "c"}
	want(t, "Append", b.Append(texts...), api.OK)
	if inside(b.tail, texts[0]) || inside(b.tail, texts[1]) {
		t.Error("a book keeps a piece of a text")
	}
	texts[0], texts[2] = "x", "y"
	want(t, "Append", b.Append("d"), api.OK)
	_, l, _ := Open(d, 0, 8)
	_, again, _ := Open(d, 0, 8)
	wanted := []string{letters("a", 100), letters("b", 200), "c", "d"}
	if !slices.Equal(l, wanted) {
		t.Errorf("Open: %q", l)
	}
	for i := range l {
		if inside(l[i], again[i]) || i > 0 && inside(l[i], l[i-1]) {
			t.Error("Open tells memory that is another one's")
		}
	}
	l[0] = "z"
	if !slices.Equal(again, wanted) {
		t.Errorf("an answer changed with another one: %q", again)
	}
}

// steps does what the bytes say, one call behind the other, and holds each against the chapter's words.
func steps(x *pair, script []byte) {
	x.t.Helper()
	next := func() int {
		if len(script) == 0 {
			return 0
		}
		b := script[0]
		script = script[1:]
		return int(b)
	}
	for len(script) > 0 {
		switch do := next() % 16; do {
		case 0:
			x.clear()
		case 1, 2:
			x.open()
		case 3:
			x.fuse(next() % 9)
		case 4, 5:
			var picks []int
			for range next() % 8 {
				picks = append(picks, next()-64)
			}
			x.crash(picks...)
		case 6: // somebody writes what is no book's
			k, s := next()%x.d.Len(), string([]byte{byte(next())})
			s = letters(s, 127) + string([]byte{byte(next())})
			x.end("Write", x.d.Write(k, s), x.twin.Write(k, s))
		default:
			if x.b == nil {
				x.open()
			} else if do == 7 || do == 8 {
				x.sync()
			} else {
				var texts []string
				for range next() % 4 {
					texts = append(texts, letters(string([]byte{byte(next())}), next()))
				}
				x.append(texts...)
			}
		}
	}
}

// TestDrawn (P6.1 to P6.4, R6): calls that are drawn, one behind the other, twice the same.
func TestDrawn(t *testing.T) {
	r := rand.New(rand.NewSource(6))
	for range 1000 {
		script := []byte(drawn(r, r.Intn(400)))
		from, n := r.Intn(2), 1+r.Intn(4)
		a, b := newPair(t, from+n+1, from, n, ""), newPair(t, from+n+1, from, n, "")
		steps(a, script)
		steps(b, script)
		if a.d.Sure() != b.d.Sure() || a.d.Loose() != b.d.Loose() {
			t.Fatal("the same calls made two disks")
		}
	}
}

// FuzzBook (P6.1 to P6.4): any calls, one behind the other.
func FuzzBook(f *testing.F) {
	f.Add(0, 2, []byte{1, 9, 2, 'a', 1, 'b', 1, 7, 9, 1, 'c', 1, 4, 1, 192, 1})
	f.Add(1, 3, []byte{1, 9, 1, 'a', 200, 3, 2, 9, 2, 'b', 200, 'c', 3, 4, 3, 64, 192, 70, 3, 1, 1, 4, 2, 192, 192, 1})
	f.Fuzz(func(t *testing.T, from, n int, script []byte) {
		from, n = from&3, 1+n&7
		steps(newPair(t, from+n+1, from, n, ""), script)
	})
}

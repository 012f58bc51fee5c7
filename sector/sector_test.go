package sector

import (
	"math"
	"math/rand"
	"slices"
	"strings"
	"testing"
	"unsafe"

	"thresher/api"
)

// plainDisk is a disk as the chapter's words tell it: what is there for good, and the loose writes, in order.
type plainDisk struct {
	sure  []string
	loose []plainWrite
	fused bool
	left  int
}

type plainWrite struct {
	k    int
	text string
}

func plainNew(n int) *plainDisk {
	return &plainDisk{sure: slices.Repeat([]string{strings.Repeat("\x00", 128)}, n)}
}

func (p *plainDisk) down() bool { return p.fused && p.left <= 0 }

func (p *plainDisk) read(k int) (string, api.Errno) {
	if p.down() {
		return "", api.ErrDown
	}
	if k < 0 || k >= len(p.sure) {
		return "", api.ErrRange
	}
	for i := len(p.loose) - 1; i >= 0; i-- {
		if p.loose[i].k == k {
			return p.loose[i].text, api.OK
		}
	}
	return p.sure[k], api.OK
}

func (p *plainDisk) write(k int, text string) api.Errno {
	if k < 0 || k >= len(p.sure) {
		return api.ErrRange
	}
	if len(text) > 128 {
		return api.ErrLong
	}
	if p.down() {
		return api.ErrDown
	}
	p.left--
	p.loose = append(p.loose, plainWrite{k, text + strings.Repeat("\x00", 128-len(text))})
	return api.OK
}

func (p *plainDisk) sync() api.Errno {
	if p.down() {
		return api.ErrDown
	}
	p.left--
	for _, w := range p.loose {
		p.sure[w.k] = w.text
	}
	p.loose = nil
	return api.OK
}

func (p *plainDisk) fuse(n int) api.Errno {
	if n < 0 {
		return api.ErrArg
	}
	p.fused, p.left = true, n
	return api.OK
}

func (p *plainDisk) crash(picks ...int) {
	for i, w := range p.loose {
		pick := 0
		if i < len(picks) {
			pick = picks[i]
		}
		if pick >= 128 {
			p.sure[w.k] = w.text
		} else if pick > 0 {
			p.sure[w.k] = w.text[:pick] + p.sure[w.k][pick:]
		}
	}
	p.loose, p.fused = nil, false
}

// pair is a disk, and what it should be.
type pair struct {
	t *testing.T
	d *Disk
	p *plainDisk
}

func newPair(t *testing.T, n int) pair {
	t.Helper()
	d, e := New(n)
	if e != api.OK || d == nil {
		t.Fatalf("New(%d): %v, %v", n, d, e)
	}
	return pair{t, d, plainNew(n)}
}

// same holds all that a disk tells of itself against what it should be.
func (x pair) same() {
	x.t.Helper()
	if n := x.d.Len(); n != len(x.p.sure) {
		x.t.Fatalf("Len: %d, want %d", n, len(x.p.sure))
	}
	if n := x.d.Loose(); n != len(x.p.loose) {
		x.t.Fatalf("Loose: %d, want %d", n, len(x.p.loose))
	}
	if s := x.d.Sure(); s != strings.Join(x.p.sure, "") {
		x.t.Fatalf("Sure: %q, want %q", s, x.p.sure)
	}
	for k := -1; k <= len(x.p.sure); k++ {
		want, wantE := x.p.read(k)
		if s, e := x.d.Read(k); s != want || e != wantE {
			x.t.Fatalf("Read(%d): %q, %v; want %q, %v", k, s, e, want, wantE)
		}
	}
}

func (x pair) write(k int, text string) api.Errno {
	x.t.Helper()
	e, want := x.d.Write(k, text), x.p.write(k, text)
	if e != want {
		x.t.Fatalf("Write(%d, %q): %v, want %v", k, text, e, want)
	}
	x.same()
	return e
}

func (x pair) sync() api.Errno {
	x.t.Helper()
	e, want := x.d.Sync(), x.p.sync()
	if e != want {
		x.t.Fatalf("Sync: %v, want %v", e, want)
	}
	x.same()
	return e
}

func (x pair) fuse(n int) api.Errno {
	x.t.Helper()
	e, want := x.d.Fuse(n), x.p.fuse(n)
	if e != want {
		x.t.Fatalf("Fuse(%d): %v, want %v", n, e, want)
	}
	x.same()
	return e
}

func (x pair) crash(picks ...int) {
	x.t.Helper()
	if e := x.d.Crash(picks...); e != api.OK {
		x.t.Fatalf("Crash(%v): %v", picks, e)
	}
	x.p.crash(picks...)
	x.same()
}

// wantFront wants that sector 0 is read, with that text at its front.
func wantFront(t *testing.T, d *Disk, want string) {
	t.Helper()
	if s, e := d.Read(0); e != api.OK || len(s) != 128 || !strings.HasPrefix(s, want) {
		t.Errorf("Read(0): %q, %v; want %q at the front", s, e, want)
	}
}

// want holds an error against what is wanted.
func want(t *testing.T, what string, e, wanted api.Errno) {
	t.Helper()
	if e != wanted {
		t.Errorf("%s: %v, want %v", what, e, wanted)
	}
}

// full is a sector's text, of one letter.
func full(letter string) string { return strings.Repeat(letter, 128) }

// drawn is a text of n bytes that are drawn.
func drawn(r *rand.Rand, n int) string {
	b := make([]byte, n)
	r.Read(b)
	return string(b)
}

// TestExamples: the chapter's, as they stand there.
func TestExamples(t *testing.T) {
	d, _ := New(1)
	d.Write(0, "ab")
	d.Crash(128)
	wantFront(t, d, "ab\x00")
	d.Write(0, "cd")
	d.Crash(1)
	wantFront(t, d, "cb\x00")
	d.Fuse(1)
	want(t, "Write, the first behind Fuse(1)", d.Write(0, "ef"), api.OK)
	want(t, "Write, the second behind Fuse(1)", d.Write(0, "gh"), api.ErrDown)
	d.Crash(128)
	wantFront(t, d, "ef\x00")
}

// TestNew (P5.1): from 1 to MaxSectors sectors, each of bytes 0; nothing beyond.
func TestNew(t *testing.T) {
	for _, n := range []int{1, 2, 3, 127, 128, 129, api.MaxSectors - 1, api.MaxSectors} {
		d, e := New(n)
		if e != api.OK || d.Len() != n || d.Loose() != 0 || d.Sure() != strings.Repeat("\x00", n*128) {
			t.Fatalf("New(%d): %d sectors, %d loose, %v", n, d.Len(), d.Loose(), e)
		}
		for _, k := range slices.Compact([]int{0, n - 1}) {
			if s, e := d.Read(k); e != api.OK || s != full("\x00") {
				t.Errorf("Read(%d) of %d: %q, %v", k, n, s, e)
			}
			want(t, "Write", d.Write(k, "x"), api.OK)
		}
		for _, k := range []int{n, n + 1, -1, math.MaxInt, math.MinInt} {
			if s, e := d.Read(k); e != api.ErrRange || s != "" {
				t.Errorf("Read(%d) of %d: %q, %v", k, n, s, e)
			}
			want(t, "Write", d.Write(k, "x"), api.ErrRange)
		}
	}
	for _, n := range []int{0, -1, -2, math.MinInt32, math.MinInt, api.MaxSectors + 1, api.MaxSectors + 2, math.MaxInt32, math.MaxInt} {
		if d, e := New(n); d != nil || e != api.ErrArg {
			t.Errorf("New(%d): %v, %v", n, d, e)
		}
	}
}

// TestWrite (P5.2): texts of all lengths; what stood there ahead is gone, also behind the text; no other sector is changed.
func TestWrite(t *testing.T) {
	x := newPair(t, 4)
	for k := range 4 {
		x.write(k, full("abcd"[k:k+1]))
	}
	for n := range 129 {
		want(t, "Write", x.write(1, full("x")), api.OK)
		want(t, "Write", x.write(1, full("y")[:n]), api.OK)
		if s, e := x.d.Read(1); e != api.OK || s != full("y")[:n]+full("\x00")[n:] {
			t.Errorf("Write of %d bytes: %q, %v", n, s, e)
		}
		if s, e := x.d.Read(2); e != api.OK || s != full("c") {
			t.Errorf("the next sector: %q, %v", s, e)
		}
	}
	for _, n := range []int{129, 130, 256, 1 << 16} {
		want(t, "Write, too long", x.write(1, strings.Repeat("z", n)), api.ErrLong)
	}
	for _, k := range []int{4, 5, -1, -4, math.MaxInt, math.MinInt} {
		want(t, "Write, no such sector", x.write(k, ""), api.ErrRange)
		want(t, "Write, no such sector, too long", x.write(k, full("z")+"z"), api.ErrRange)
	}
}

// TestSync (P5.2, P5.4): what is loose is read, and is for good with the sync; a sync with nothing loose does no harm.
func TestSync(t *testing.T) {
	x := newPair(t, 3)
	want(t, "Sync", x.sync(), api.OK)
	x.write(0, "a")
	x.write(2, "b")
	x.write(0, "c")
	if s := x.d.Sure(); s != strings.Repeat("\x00", 3*128) || x.d.Loose() != 3 {
		t.Errorf("ahead of the sync: %q, %d loose", s, x.d.Loose())
	}
	want(t, "Sync", x.sync(), api.OK)
	if s := x.d.Sure(); s[0] != 'c' || s[2*128] != 'b' || x.d.Loose() != 0 {
		t.Errorf("behind the sync: %q, %d loose", s, x.d.Loose())
	}
	want(t, "Sync", x.sync(), api.OK)
	x.write(0, "")
	x.sync()
	if s := x.d.Sure(); s[0] != 0 {
		t.Errorf("an empty text was written: %q", s)
	}
}

// TestFuse (P5.2, P5.3): so many calls go on, be they writes or syncs; from then on nothing does, up to the crash.
func TestFuse(t *testing.T) {
	for n := range 6 {
		for syncs := range 1 << 6 {
			x := newPair(t, 2)
			x.write(0, "ahead")
			x.fuse(n)
			for i := range n + 3 {
				wanted := api.OK
				if i >= n {
					wanted = api.ErrDown
				}
				if syncs>>i&1 == 1 {
					want(t, "Sync under a fuse", x.sync(), wanted)
				} else {
					want(t, "Write under a fuse", x.write(i&1, string(rune('a'+i))), wanted)
				}
			}
			if s, e := x.d.Read(0); s != "" || e != api.ErrDown {
				t.Errorf("Read, standing still: %q, %v", s, e)
			}
			x.crash(1, 1, 1)
			want(t, "Sync behind a crash", x.sync(), api.OK)
			for range 9 {
				want(t, "Write behind a crash", x.write(1, "w"), api.OK)
			}
		}
	}
}

// TestFuseStill (P5.2): it stands still with the last call that goes on, not with the first that does not.
func TestFuseStill(t *testing.T) {
	x := newPair(t, 1)
	x.fuse(0)
	if s, e := x.d.Read(0); s != "" || e != api.ErrDown {
		t.Errorf("Read behind Fuse(0): %q, %v", s, e)
	}
	x.crash()
	x.fuse(1)
	wantFront(t, x.d, "\x00")
	x.write(0, "a")
	if s, e := x.d.Read(0); s != "" || e != api.ErrDown {
		t.Errorf("Read behind Fuse(1), Write: %q, %v", s, e)
	}
	x.crash()
	x.fuse(1)
	want(t, "a sync with nothing loose", x.sync(), api.OK)
	want(t, "a sync with nothing loose burns the fuse", x.sync(), api.ErrDown)
	want(t, "a sync with nothing loose burns the fuse", x.write(0, ""), api.ErrDown)
}

// TestFuseCounts (P5.2): reads, refused calls, and what a disk tells of itself do not burn a fuse.
func TestFuseCounts(t *testing.T) {
	x := newPair(t, 2)
	x.fuse(2)
	for range 5 {
		x.same()
		want(t, "Write", x.write(2, "a"), api.ErrRange)
		want(t, "Write", x.write(-1, "a"), api.ErrRange)
		want(t, "Write", x.write(0, full("a")+"a"), api.ErrLong)
		want(t, "Fuse", x.fuse(-1), api.ErrArg)
	}
	want(t, "Write", x.write(0, "b"), api.OK)
	want(t, "Write", x.write(1, "c"), api.OK)
	want(t, "Write", x.write(1, "d"), api.ErrDown)
	x.crash(128, 128)
	wantFront(t, x.d, "b\x00")
}

// TestFuseAgain (P5.3): an older fuse is gone, be it longer, shorter or burnt down; one below 0 changes nothing.
func TestFuseAgain(t *testing.T) {
	for _, older := range []int{0, 1, 2, 5, math.MaxInt} {
		for _, burnt := range []int{0, 1, 2, 3} {
			for _, n := range []int{0, 1, 2, 3} {
				x := newPair(t, 1)
				x.fuse(older)
				for range burnt {
					x.write(0, "a")
				}
				want(t, "Fuse", x.fuse(n), api.OK)
				for _, wrong := range []int{-1, -2, math.MinInt32, math.MinInt} {
					want(t, "Fuse, below 0", x.fuse(wrong), api.ErrArg)
				}
				for range n {
					want(t, "Write under a new fuse", x.write(0, "b"), api.OK)
				}
				want(t, "Write behind a new fuse", x.write(0, "c"), api.ErrDown)
			}
		}
	}
	x := newPair(t, 1)
	x.fuse(-1)
	want(t, "Write behind Fuse(-1)", x.write(0, "a"), api.OK)
	x.fuse(math.MaxInt)
	for range 100 {
		want(t, "Write behind Fuse(MaxInt)", x.write(0, "a"), api.OK)
	}
}

// TestOrder (R2): of several errors the one that is named first; standing still changes what is asked last of a write, first of a read.
func TestOrder(t *testing.T) {
	long := full("a") + "a"
	x := newPair(t, 1)
	x.write(0, "a")
	x.fuse(0)
	want(t, "Write, no sector, too long, still", x.write(1, long), api.ErrRange)
	want(t, "Write, no sector, still", x.write(-1, ""), api.ErrRange)
	want(t, "Write, too long, still", x.write(0, long), api.ErrLong)
	want(t, "Write, still", x.write(0, ""), api.ErrDown)
	want(t, "Fuse, below 0, still", x.fuse(-1), api.ErrArg)
	for _, k := range []int{-1, 0, 1} {
		if s, e := x.d.Read(k); s != "" || e != api.ErrDown {
			t.Errorf("Read(%d), still: %q, %v", k, s, e)
		}
	}
	if x.d.Len() != 1 || x.d.Loose() != 1 || x.d.Sure() != full("\x00") {
		t.Errorf("still: %d, %d, %q", x.d.Len(), x.d.Loose(), x.d.Sure())
	}
}

// pickEdges are picks at which a crash does something else.
var pickEdges = []int{math.MinInt, -128, -1, 0, 1, 2, 63, 126, 127, 128, 129, 1 << 20, math.MaxInt}

// TestCrashPick (P5.3): one loose write, each pick.
func TestCrashPick(t *testing.T) {
	for _, pick := range pickEdges {
		for _, n := range []int{0, 1, 2, 64, 127, 128} {
			x := newPair(t, 2)
			x.write(0, full("o"))
			x.write(1, full("p"))
			x.sync()
			x.write(0, full("n")[:n])
			x.crash(pick)
			stays := min(max(pick, 0), 128)
			wanted := (full("n")[:n] + full("\x00")[n:])[:stays] + full("o")[stays:]
			if s := x.d.Sure(); s != wanted+full("p") {
				t.Errorf("pick %d, %d bytes: %q", pick, n, s)
			}
			x.crash(128, 128)
		}
	}
}

// TestCrashPicks (P5.3): no pick, fewer than loose writes, as many, more; several writes of one sector are done in order.
func TestCrashPicks(t *testing.T) {
	for _, picks := range [][]int{
		nil, {}, {0}, {128}, {1}, {0, 128}, {128, 0}, {3, 2, 1, 1}, {1, 2, 3, 4}, {128, 128, 128}, {128, 128, 128, 128},
		{0, 0, 0, 5}, {127, 1, 128, 64}, {-1, -1, 2, 127}, {128, 127, 1, 2, 128, 128}, {0, 0, 0, 0, 128}, slices.Repeat([]int{5}, 1000),
	} {
		kept := slices.Clone(picks)
		x := newPair(t, 3)
		x.write(0, full("z"))
		x.sync()
		x.write(0, full("a"))
		x.write(2, full("b"))
		x.write(0, full("c"))
		x.write(0, "d")
		x.crash(picks...)
		if !slices.Equal(kept, picks) {
			t.Errorf("Crash changed its picks: %v, were %v", picks, kept)
		}
		x.crash(128, 128, 128, 128)
		x.write(0, "e")
		x.sync()
	}
	x := newPair(t, 1)
	for _, s := range []string{"aaaa", "bbb", "cc", "d"} {
		x.write(0, s)
	}
	x.crash(4, 3, 2, 1)
	wantFront(t, x.d, "dcba\x00")
}

// TestCrashSync (P5.5): behind a sync a crash changes nothing, whatever is picked; nor does one behind another crash.
func TestCrashSync(t *testing.T) {
	for _, pick := range pickEdges {
		x := newPair(t, 2)
		x.write(0, full("a"))
		x.write(1, "b")
		x.write(0, "c")
		x.sync()
		sure := x.d.Sure()
		x.crash(pick, pick, pick, pick)
		if x.d.Sure() != sure {
			t.Errorf("pick %d: %q, was %q", pick, x.d.Sure(), sure)
		}
		x.write(1, full("d"))
		x.crash(5)
		sure = x.d.Sure()
		x.crash(pick, pick)
		if x.d.Sure() != sure {
			t.Errorf("a second crash, pick %d: %q, was %q", pick, x.d.Sure(), sure)
		}
	}
}

// TestCrashBytes (P5.5): each byte is one that the sector had for good, or that a loose write wrote there.
func TestCrashBytes(t *testing.T) {
	r := rand.New(rand.NewSource(1))
	for range 300 {
		x := newPair(t, 2)
		had := [2 * 128]map[byte]bool{}
		note := func(s string, from int) {
			for i := range len(s) {
				had[from+i][s[i]] = true
			}
		}
		for i := range had {
			had[i] = map[byte]bool{0: true}
		}
		for range r.Intn(6) {
			k, s := r.Intn(2), drawn(r, 128)
			x.write(k, s)
			note(s, 128*k)
		}
		x.crash(somePicks(r)...)
		for i, b := range []byte(x.d.Sure()) {
			if !had[i][b] {
				t.Fatalf("byte %d is %d, which nobody wrote there", i, b)
			}
		}
	}
}

// somePicks are picks that are drawn.
func somePicks(r *rand.Rand) (l []int) {
	for range r.Intn(8) {
		switch r.Intn(3) {
		case 0:
			l = append(l, pickEdges[r.Intn(len(pickEdges))])
		default:
			l = append(l, r.Intn(140)-5)
		}
	}
	return l
}

// TestNone (R3): of no disk, and of one that New did not make, nothing is told, and nothing is done.
func TestNone(t *testing.T) {
	for _, d := range []*Disk{nil, {}, new(Disk)} {
		for range 2 {
			for _, k := range []int{-1, 0, 1} {
				if s, e := d.Read(k); s != "" || e != api.ErrNil {
					t.Errorf("Read(%d): %q, %v", k, s, e)
				}
				want(t, "Write", d.Write(k, ""), api.ErrNil)
				want(t, "Write, too long", d.Write(k, full("a")+"a"), api.ErrNil)
				want(t, "Fuse", d.Fuse(k), api.ErrNil)
				want(t, "Crash", d.Crash(k), api.ErrNil)
			}
			want(t, "Sync", d.Sync(), api.ErrNil)
			want(t, "Crash", d.Crash(), api.ErrNil)
			if d.Len() != 0 || d.Loose() != 0 || d.Sure() != "" {
				t.Errorf("no disk: %d, %d, %q", d.Len(), d.Loose(), d.Sure())
			}
		}
	}
}

// inside tells whether a text stands in another one's memory.
func inside(text, s string) bool {
	at, from := uintptr(unsafe.Pointer(unsafe.StringData(text))), uintptr(unsafe.Pointer(unsafe.StringData(s)))
	return at >= from && at < from+uintptr(len(s))
}

// TestNewMemory (R5): what was read or told stays as it was, and stands nowhere else; disks have nothing in common.
func TestNewMemory(t *testing.T) {
	a, _ := New(2)
	b, _ := New(2)
	text := full("a")
	a.Write(0, text)
	s, _ := a.Read(0)
	again, _ := a.Read(0)
	sure := a.Sure()
	if inside(s, text) || inside(s, again) {
		t.Error("Read tells memory that is another one's")
	}
	a.Write(0, full("b"))
	a.Sync()
	if s != full("a") || again != full("a") || sure != full("\x00")+full("\x00") {
		t.Errorf("what was told changed: %q, %q, %q", s, again, sure)
	}
	wantFront(t, b, "\x00")
	if b.Loose() != 0 || b.Sure() != full("\x00")+full("\x00") {
		t.Errorf("a disk changed with another one: %q", b.Sure())
	}
}

// steps does what the bytes say, one call behind the other, and holds each against the chapter's words.
func steps(x pair, script []byte) {
	x.t.Helper()
	next := func() int {
		if len(script) == 0 {
			return 0
		}
		b := script[0]
		script = script[1:]
		return int(b)
	}
	for len(script) > 0 {
		switch next() % 12 {
		default:
			k, n, b := next()%(len(x.p.sure)+2)-1, next()%132, byte(next())
			x.write(k, strings.Repeat(string([]byte{b}), n))
		case 0, 1:
			x.sync()
		case 2:
			x.fuse(next()%9 - 1)
		case 3, 4:
			var picks []int
			for range next() % 6 {
				picks = append(picks, next()-64)
			}
			x.crash(picks...)
		}
	}
}

// TestDrawn (P5.1 to P5.5, R6): calls that are drawn, one behind the other, twice the same.
func TestDrawn(t *testing.T) {
	r := rand.New(rand.NewSource(2))
	for range 400 {
		script := []byte(drawn(r, r.Intn(400)))
		n := 1 + r.Intn(5)
		a, b := newPair(t, n), newPair(t, n)
		steps(a, script)
		steps(b, script)
		if a.d.Sure() != b.d.Sure() || a.d.Loose() != b.d.Loose() {
			t.Fatal("the same calls made two disks")
		}
	}
}

// FuzzDisk (P5.2 to P5.5): any calls, one behind the other.
func FuzzDisk(f *testing.F) {
	f.Add(1, []byte{9, 1, 2, 'a', 3, 1, 192, 9, 1, 2, 'c', 3, 1, 65})
	f.Add(3, []byte{2, 2, 9, 1, 2, 'e', 9, 1, 2, 'g', 0, 4, 2, 255, 255})
	f.Fuzz(func(t *testing.T, n int, script []byte) {
		if n < 1 || n > 8 {
			n = 1 + n&7
		}
		steps(newPair(t, n), script)
	})
}

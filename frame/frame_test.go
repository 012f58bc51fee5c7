package frame

import (
	"encoding/binary"
	"hash/crc32"
	"math"
	"math/rand"
	"slices"
	"strings"
	"testing"
	"unsafe"

	"thresher/api"
)

// plainSum has the four bytes of a text's sum.
func plainSum(s string) string {
	return string(binary.LittleEndian.AppendUint32(nil, crc32.Checksum([]byte(s), crc32.MakeTable(crc32.Castagnoli))))
}

// plainFrame is the frame of a tag and a text, as the chapter's words tell it.
func plainFrame(tag uint8, text string) string {
	s := string([]byte{1, tag}) + string(binary.AppendUvarint(nil, uint64(len(text)))) + text
	return s + plainSum(s)
}

// withSum has a sum behind any bytes.
func withSum(s string) string { return s + plainSum(s) }

// plainNum is the number at the front of s, as layer 1 tells it.
func plainNum(s string) (uint64, int, api.Errno) {
	n := 0
	for n < len(s) && n < 10 && s[n] >= 128 {
		n++
	}
	if n == 10 {
		return 0, 0, api.ErrForm
	}
	if n == len(s) {
		return 0, 0, api.ErrShort
	}
	n++
	x, k := binary.Uvarint([]byte(s[:n]))
	if k != n || string(binary.AppendUvarint(nil, x)) != s[:n] {
		return 0, 0, api.ErrForm
	}
	return x, n, api.OK
}

// plainRead is Read, one word of P4.2 behind the other.
func plainRead(s string, most int) (api.Frame, int, api.Errno) {
	if s == "" {
		return api.Frame{}, 0, api.ErrTorn
	}
	if s[0] != 1 {
		return api.Frame{}, 0, api.ErrForeign
	}
	if len(s) == 1 {
		return api.Frame{}, 0, api.ErrTorn
	}
	x, n, e := plainNum(s[2:])
	if e == api.ErrShort {
		return api.Frame{}, 0, api.ErrTorn
	}
	if e != api.OK {
		return api.Frame{}, 0, e
	}
	if most < 0 || x > uint64(most) || x > 131072 {
		return api.Frame{}, 0, api.ErrLong
	}
	end := 2 + n + int(x)
	if len(s) < end+4 {
		return api.Frame{}, 0, api.ErrTorn
	}
	if s[end:end+4] != plainSum(s[:end]) {
		return api.Frame{}, 0, api.ErrSum
	}
	return api.Frame{Tag: s[1], Text: s[2+n : end]}, end + 4, api.OK
}

// plainScan is Scan, of plainRead.
func plainScan(s string, most int) (l []api.Frame, good int, e api.Errno) {
	for good < len(s) {
		f, n, e := plainRead(s[good:], most)
		if e != api.OK {
			return l, good, e
		}
		l, good = append(l, f), good+n
	}
	return l, good, api.OK
}

// short is a text for a message: its beginning alone, if it is long.
func short(s string) string { return s[:min(len(s), 40)] }

// wantRead holds an answer of Read against what is wanted.
func wantRead(t *testing.T, s string, most int, f api.Frame, n int, e api.Errno) {
	t.Helper()
	if gotF, gotN, gotE := Read(s, most); gotF != f || gotN != n || gotE != e {
		t.Errorf("Read(%x of %d bytes, %d): %d %q, %d, %v; want %d %q, %d, %v",
			short(s), len(s), most, gotF.Tag, short(gotF.Text), gotN, gotE, f.Tag, short(f.Text), n, e)
	}
}

// wantFault wants a fault of Read, and zero beside it.
func wantFault(t *testing.T, s string, most int, e api.Errno) {
	t.Helper()
	wantRead(t, s, most, api.Frame{}, 0, e)
}

// wantScan holds an answer of Scan against what is wanted.
func wantScan(t *testing.T, s string, most int, l []api.Frame, good int, e api.Errno) {
	t.Helper()
	if gotL, gotGood, gotE := Scan(s, most); !slices.Equal(gotL, l) || gotGood != good || gotE != e {
		t.Errorf("Scan(%x of %d bytes, %d): %d frames, %d, %v; want %d, %d, %v",
			short(s), len(s), most, len(gotL), gotGood, gotE, len(l), good, e)
	}
}

// wantPlain holds Read and Scan against the chapter's words.
func wantPlain(t *testing.T, s string, most int) {
	t.Helper()
	f, n, e := plainRead(s, most)
	wantRead(t, s, most, f, n, e)
	l, good, e := plainScan(s, most)
	wantScan(t, s, most, l, good, e)
}

// drawn is a text of n bytes that are drawn.
func drawn(r *rand.Rand, n int) string {
	b := make([]byte, n)
	r.Read(b)
	return string(b)
}

// edges are lengths of texts at which a length takes a byte more, and the bound.
var edges = []int{0, 1, 2, 3, 31, 100, 126, 127, 128, 129, 200, 255, 256, 1<<14 - 1, 1 << 14, 1<<14 + 1, 1 << 16, api.MaxFrame - 1, api.MaxFrame}

// TestWrite (P4.1): each tag, lengths at all edges; a text of MaxFrame bytes is read again.
func TestWrite(t *testing.T) {
	r := rand.New(rand.NewSource(1))
	for tag := range 256 {
		for _, text := range []string{"", "a", "abc", "\x00", drawn(r, 200)} {
			if s, e := Write(uint8(tag), text); e != api.OK || s != plainFrame(uint8(tag), text) {
				t.Errorf("Write(%d, %x): %x, %v", tag, text, s, e)
			}
		}
	}
	for _, n := range edges {
		text := drawn(r, n)
		s, e := Write(9, text)
		if e != api.OK || s != plainFrame(9, text) {
			t.Errorf("Write, %d bytes: %x of %d, %v", n, short(s), len(s), e)
		}
		wantRead(t, s, api.MaxFrame, api.Frame{Tag: 9, Text: text}, len(s), api.OK)
	}
}

// TestWriteTexts (P4.1): no text, an empty one, several; it matters not where one ends, and none is changed.
func TestWriteTexts(t *testing.T) {
	for _, x := range []struct {
		texts []string
		want  string
	}{
		{nil, ""},
		{[]string{}, ""},
		{[]string{""}, ""},
		{[]string{"", "", ""}, ""},
		{[]string{"abc"}, "abc"},
		{[]string{"a", "bc"}, "abc"},
		{[]string{"", "a", "", "b", "c", ""}, "abc"},
		{[]string{"bc", "a"}, "bca"},
		{[]string{"a", "a", "a"}, "aaa"},
		{[]string{strings.Repeat("x", 100), strings.Repeat("y", 28)}, strings.Repeat("x", 100) + strings.Repeat("y", 28)},
	} {
		kept := slices.Clone(x.texts)
		if s, e := Write(3, x.texts...); e != api.OK || s != plainFrame(3, x.want) {
			t.Errorf("Write(%q): %x, %v", x.texts, s, e)
		}
		if !slices.Equal(kept, x.texts) {
			t.Errorf("Write changed its texts: %q, were %q", x.texts, kept)
		}
	}
}

// TestWriteLong (P4.1): all texts together are bounded, whichever goes beyond.
func TestWriteLong(t *testing.T) {
	full := strings.Repeat("f", api.MaxFrame)
	half := full[:api.MaxFrame/2]
	for _, texts := range [][]string{{full}, {full, ""}, {"", full, "", ""}, {half, half}, {full[1:], "f"}, {"f", full[1:]}, slices.Repeat([]string{full[:1<<10]}, 1<<7)} {
		if s, e := Write(0, texts...); e != api.OK || s != plainFrame(0, full) {
			t.Errorf("Write, %d texts of MaxFrame bytes: %d bytes, %v", len(texts), len(s), e)
		}
	}
	for _, texts := range [][]string{{full + "f"}, {full, "f"}, {"f", full}, {"f", "", full}, {half, half, "f"}, {half, "f", half}, {full, full}, slices.Repeat([]string{full}, 1<<16), append(slices.Repeat([]string{full[:1<<10]}, 1<<7), "", "f")} {
		if s, e := Write(0, texts...); e != api.ErrLong || s != "" {
			t.Errorf("Write, %d texts of too many bytes: %d bytes, %v", len(texts), len(s), e)
		}
	}
}

// TestSize (P4.1): as many bytes as are written; nothing beyond the bounds.
func TestSize(t *testing.T) {
	for n := range 1000 {
		if x, want := Size(n), len(plainFrame(0, strings.Repeat("a", n))); x != want {
			t.Errorf("Size(%d): %d, want %d", n, x, want)
		}
	}
	for _, n := range edges {
		s, e := Write(0, strings.Repeat("a", n))
		if e != api.OK || Size(n) != len(s) {
			t.Errorf("Size(%d): %d, written: %d, %v", n, Size(n), len(s), e)
		}
	}
	for _, n := range []int{-1, -2, -7, math.MinInt32, math.MinInt + 1, math.MinInt, api.MaxFrame + 1, api.MaxFrame + 2, math.MaxInt32, math.MaxInt - 1, math.MaxInt} {
		if x := Size(n); x != 0 {
			t.Errorf("Size(%d): %d, want 0", n, x)
		}
	}
}

// TestExamples: the chapter's, as they stand there.
func TestExamples(t *testing.T) {
	if Size(0) != 7 || Size(200) != 208 {
		t.Errorf("Size(0), Size(200): %d, %d", Size(0), Size(200))
	}
	s, e := Write(5, "text")
	if e != api.OK || s != "\x01\x05\x04text"+plainSum("\x01\x05\x04text") {
		t.Fatalf("%x, %v", s, e)
	}
	wantFault(t, s[:len(s)-1], 9, api.ErrTorn)
	wantFault(t, "\x02"+s[1:], 9, api.ErrForeign)
	f := api.Frame{Tag: 5, Text: "text"}
	wantScan(t, s+s+"\x01", 9, []api.Frame{f, f}, 2*len(s), api.ErrTorn)
}

// TestRead (P4.2): a frame, whatever stands behind it.
func TestRead(t *testing.T) {
	r := rand.New(rand.NewSource(2))
	for _, n := range edges {
		f := api.Frame{Tag: uint8(r.Intn(256)), Text: drawn(r, n)}
		s := plainFrame(f.Tag, f.Text)
		for _, behind := range []string{"", "\x00", "\x01", "\xff\xff\xff", s, drawn(r, 20)} {
			wantRead(t, s+behind, api.MaxFrame, f, len(s), api.OK)
		}
	}
}

// TestReadBound (P4.2): a bound that is the text's length, one more, one below, below 0; MaxFrame bounds, too.
func TestReadBound(t *testing.T) {
	for _, n := range edges {
		f := api.Frame{Tag: 1, Text: strings.Repeat("b", n)}
		s := plainFrame(f.Tag, f.Text)
		for _, most := range []int{n, n + 1, 2*n + 1, api.MaxFrame, api.MaxFrame + 1, math.MaxInt} {
			wantRead(t, s, most, f, len(s), api.OK)
		}
		for _, most := range []int{n - 1, -1, -n - 1, math.MinInt32, math.MinInt} {
			wantFault(t, s, most, api.ErrLong)
			wantScan(t, s, most, nil, 0, api.ErrLong)
		}
	}
	for _, n := range []int{api.MaxFrame + 1, api.MaxFrame + 2, 1 << 18} {
		s := plainFrame(1, strings.Repeat("b", n))
		for _, most := range []int{n, n + 1, api.MaxFrame, 1 << 40, math.MaxInt, -1} {
			wantFault(t, s, most, api.ErrLong)
		}
	}
	for _, x := range []uint64{1 << 31, 1<<32 + 1, 1<<63 - 1, 1 << 63, 1<<63 + 1, math.MaxUint64} {
		s := "\x01\x01" + string(binary.AppendUvarint(nil, x))
		for _, most := range []int{0, 3, math.MaxInt, -1, math.MinInt} {
			wantFault(t, withSum(s), most, api.ErrLong)
			wantFault(t, s, most, api.ErrLong)
		}
	}
}

// TestReadVersion (P4.2): each other first byte is foreign, whatever stands behind, or nothing.
func TestReadVersion(t *testing.T) {
	s := plainFrame(7, "abc")
	wantFault(t, "", 9, api.ErrTorn)
	wantFault(t, "", -1, api.ErrTorn)
	for v := range 256 {
		if v == 1 {
			continue
		}
		first := string([]byte{byte(v)})
		for _, x := range []string{first, first + s[1:], withSum(first + s[1:6]), first + "\x07", first + "\x07\x80", first + "\x07\x80\x00", first + s} {
			wantFault(t, x, 9, api.ErrForeign)
			wantFault(t, x, -1, api.ErrForeign)
			wantScan(t, s+x, 9, []api.Frame{{Tag: 7, Text: "abc"}}, len(s), api.ErrForeign)
		}
	}
}

// TestReadLength (P4.2): a length's other forms are none, also where the sum fits; a length without its end is torn.
func TestReadLength(t *testing.T) {
	for _, x := range []string{"\x80\x00", "\x83\x00", "\x83\x80\x00", "\xff\x00", "\x83\x80\x80\x80\x80\x80\x80\x80\x80\x00", strings.Repeat("\xff", 9) + "\x02", strings.Repeat("\x80", 10), strings.Repeat("\xff", 10) + "\x01"} {
		for _, most := range []int{3, 0, -1, math.MaxInt} {
			wantFault(t, "\x01\x01"+x, most, api.ErrForm)
			wantFault(t, withSum("\x01\x01"+x+"abc"), most, api.ErrForm)
			wantScan(t, withSum("\x01\x01"+x+"abc"), most, nil, 0, api.ErrForm)
		}
	}
	for n := range 10 {
		for _, b := range []string{"\x80", "\x83", "\xff"} {
			for _, most := range []int{3, 0, -1} {
				wantFault(t, "\x01\x01"+strings.Repeat(b, n), most, api.ErrTorn)
			}
		}
	}
}

// TestReadTorn (P4.2): cut off anywhere a frame is torn, unless its length is there and too great.
func TestReadTorn(t *testing.T) {
	r := rand.New(rand.NewSource(3))
	for _, n := range []int{0, 1, 2, 100, 127, 128, 300} {
		s := plainFrame(uint8(r.Intn(256)), drawn(r, n))
		front := len(s) - n - 4
		for k := range len(s) {
			wantFault(t, s[:k], n, api.ErrTorn)
			wantFault(t, s[:k], math.MaxInt, api.ErrTorn)
			want := api.ErrTorn
			if k >= front {
				want = api.ErrLong
			}
			wantFault(t, s[:k], n-1, want)
		}
	}
	s := plainFrame(8, strings.Repeat("c", api.MaxFrame))
	for _, k := range []int{len(s) - 1, len(s) - 4, len(s) - 5, len(s) / 2} {
		wantFault(t, s[:k], api.MaxFrame, api.ErrTorn)
	}
}

// TestReadSum (P4.2): the sum is of all that stands ahead of it; another one is told as such.
func TestReadSum(t *testing.T) {
	front := "\x01\x07\x03abc"
	right := plainSum(front)
	reversed := string([]byte{right[3], right[2], right[1], right[0]})
	inverse := string([]byte{^right[0], ^right[1], ^right[2], ^right[3]})
	for _, sum := range []string{"\x00\x00\x00\x00", "\xff\xff\xff\xff", reversed, inverse, plainSum("abc"), plainSum("\x03abc"), plainSum("\x07\x03abc"), plainSum("\x07abc"), plainSum("\x01\x07abc"), plainSum(front + "\x00"), plainSum("")} {
		wantFault(t, front+sum, 3, api.ErrSum)
		wantFault(t, front+sum+right, 3, api.ErrSum)
	}
	for tag := range 256 {
		if tag != 7 {
			wantFault(t, "\x01"+string([]byte{byte(tag)})+front[2:]+right, 3, api.ErrSum)
		}
	}
	wantFault(t, "\x01\x07\x02abc"+right, 3, api.ErrSum)
	wantFault(t, "\x01\x07\x00"+right+right, 3, api.ErrSum)
}

// some draws frames, some of them alike, and their bytes.
func some(r *rand.Rand, n int) (l []api.Frame, s string, ends []int) {
	for range n {
		f := api.Frame{Tag: uint8(r.Intn(256)) >> r.Intn(9), Text: drawn(r, r.Intn(200)>>r.Intn(9))}
		l, s = append(l, f), s+plainFrame(f.Tag, f.Text)
		ends = append(ends, len(s))
	}
	return l, s, ends
}

// TestScan (P4.3, P4.4): what was written, one behind the other, is told as it was; cut off anywhere just the whole ones are.
func TestScan(t *testing.T) {
	r := rand.New(rand.NewSource(4))
	wantScan(t, "", 0, nil, 0, api.OK)
	wantScan(t, "", -1, nil, 0, api.OK)
	for n := range 12 {
		l, s, ends := some(r, n)
		written := ""
		for _, f := range l {
			x, e := Write(f.Tag, f.Text)
			if e != api.OK {
				t.Fatal(e)
			}
			written += x
		}
		if written != s {
			t.Fatalf("written: %x, want %x", written, s)
		}
		wantScan(t, s, api.MaxFrame, l, len(s), api.OK)
		whole, at := 0, 0
		for k := range len(s) {
			if whole < n && k == ends[whole] {
				whole, at = whole+1, k
			}
			want := api.ErrTorn
			if k == at {
				want = api.OK
			}
			wantScan(t, s[:k], 200, l[:whole], at, want)
		}
	}
}

// TestScanStops (P4.3): up to the first that is none; whole ones behind it are not told.
func TestScanStops(t *testing.T) {
	a, b := plainFrame(5, "a"), plainFrame(6, "bb")
	f, g := api.Frame{Tag: 5, Text: "a"}, api.Frame{Tag: 6, Text: "bb"}
	long := plainFrame(3, "abc")
	for _, x := range []struct {
		s string
		l []api.Frame
		e api.Errno
	}{
		{a + b, []api.Frame{f, g}, api.OK},
		{a + a + b + a, []api.Frame{f, f, g, f}, api.OK},
		{a + "\x00" + b, []api.Frame{f}, api.ErrForeign},
		{a + "\x01", []api.Frame{f}, api.ErrTorn},
		{a + "\x01\x01\x80\x00" + b, []api.Frame{f}, api.ErrForm},
		{a + b + long + a, []api.Frame{f, g}, api.ErrLong},
		{a + b[:len(b)-1] + "\x00" + a, []api.Frame{f}, api.ErrSum},
		{a + b[:len(b)-1] + a, []api.Frame{f}, api.ErrSum},
		{a[1:] + b, nil, api.ErrForeign},
		{a[:len(a)-1] + b, nil, api.ErrSum},
		{long + a, nil, api.ErrLong},
		{"\x01" + a, nil, api.ErrLong},
	} {
		good := 0
		for _, f := range x.l {
			good += 7 + len(f.Text)
		}
		wantScan(t, x.s, 2, x.l, good, x.e)
		wantPlain(t, x.s, 2)
	}
}

// TestScanBound (P4.3): the bound holds for each frame, not for all together.
func TestScanBound(t *testing.T) {
	full := strings.Repeat("s", api.MaxFrame)
	f, g := api.Frame{Tag: 4, Text: full}, api.Frame{Tag: 4, Text: full[1:]}
	a, b := plainFrame(4, full), plainFrame(4, full[1:])
	wantScan(t, b+a+b, api.MaxFrame, []api.Frame{g, f, g}, len(a)+2*len(b), api.OK)
	wantScan(t, b+a+b, math.MaxInt, []api.Frame{g, f, g}, len(a)+2*len(b), api.OK)
	wantScan(t, b+a+b, api.MaxFrame-1, []api.Frame{g}, len(b), api.ErrLong)
	wantScan(t, b+a+b, api.MaxFrame-2, nil, 0, api.ErrLong)
	wantScan(t, b+plainFrame(4, full+"s"), math.MaxInt, []api.Frame{g}, len(b), api.ErrLong)
	empty := plainFrame(0, "")
	wantScan(t, strings.Repeat(empty, 3000), 0, make([]api.Frame, 3000), 3000*len(empty), api.OK)
}

// turned is s with bits turned: those of mask, from the bit at on, but none behind the last byte.
func turned(s string, at int, mask uint32) string {
	b := []byte(s)
	for k := range 32 {
		if mask>>k&1 == 1 && at+k < 8*len(b) {
			b[(at+k)/8] ^= 1 << ((at + k) % 8)
		}
	}
	return string(b)
}

// TestTurnedBits (P4.4): bits turned within 32 in a row behind a frame's length are told, wherever these begin, in text and sum.
func TestTurnedBits(t *testing.T) {
	r := rand.New(rand.NewSource(5))
	masks := []uint32{1, 3, 0xff, 0xffff, math.MaxUint32, 1<<31 | 1, 0x82f63b79, 0x1edc6f41, 0x05ec76f1}
	first := plainFrame(2, "first")
	told := []api.Frame{{Tag: 2, Text: "first"}}
	for _, n := range []int{0, 1, 2, 3, 4, 5, 9, 40, 127, 128} {
		s := plainFrame(uint8(r.Intn(256)), drawn(r, n))
		front := 8 * (len(s) - n - 4)
		for at := front; at < 8*len(s); at++ {
			more := []uint32{r.Uint32() | 1, r.Uint32()>>r.Intn(31) | 1}
			for _, mask := range append(more, masks...) {
				x := turned(s, at, mask)
				wantFault(t, x, api.MaxFrame, api.ErrSum)
				wantScan(t, first+x+first, api.MaxFrame, told, len(first), api.ErrSum)
			}
		}
	}
}

// TestAny (P4.2, P4.3): all beginnings of up to three bytes of which the second one matters little, and edge bytes behind them.
func TestAny(t *testing.T) {
	bounds := []int{math.MinInt, -1, 0, 1, 2, 127, math.MaxInt}
	for a := range 256 {
		for i, first := range []string{"\x01", "\x01\x07", "\x01\x00", "\x00", ""} {
			s := first + string([]byte{byte(a)})
			for _, behind := range []string{"", "\x00", "\x01", "\x80", "a\x00\x00\x00\x00", plainFrame(1, "x")} {
				wantPlain(t, s+behind, bounds[(a+i)%len(bounds)])
				wantPlain(t, withSum(s+behind), bounds[(a+i+3)%len(bounds)])
				wantPlain(t, withSum(s+behind), math.MaxInt)
			}
		}
	}
}

// TestDrawn (P4.2 to P4.4, R1): frames with something done to their bytes are read as the chapter says.
func TestDrawn(t *testing.T) {
	r := rand.New(rand.NewSource(6))
	for range 5000 {
		_, s, _ := some(r, 1+r.Intn(4))
		b := []byte(s)
		for range r.Intn(3) {
			b[r.Intn(len(b))] = byte(r.Intn(256)) >> r.Intn(9)
		}
		if r.Intn(3) == 0 {
			k := r.Intn(len(b))
			b = slices.Delete(b, k, min(len(b), k+1+r.Intn(3)))
		}
		if r.Intn(3) == 0 {
			b = slices.Insert(b, r.Intn(len(b)+1), byte(r.Intn(256)))
		}
		wantPlain(t, string(b), r.Intn(300)>>r.Intn(9)-1)
		wantPlain(t, string(b), api.MaxFrame)
	}
}

// inside tells whether a text stands in another one's memory.
func inside(text, s string) bool {
	at, from := uintptr(unsafe.Pointer(unsafe.StringData(text))), uintptr(unsafe.Pointer(unsafe.StringData(s)))
	return at >= from && at < from+uintptr(len(s))
}

// TestNewMemory (R5): no answer stands in what was handed in, nor in another answer.
func TestNewMemory(t *testing.T) {
	text := "abcdefgh"
	a, _ := Write(1, text)
	b, _ := Write(1, text)
	if a != b || inside(a, text) || inside(a, b) {
		t.Errorf("Write: %x, %x", a, b)
	}
	s := a + a
	if f, _, _ := Read(s, 9); f.Text != text || inside(f.Text, s) {
		t.Errorf("Read: %q stands in the bytes that it was read of", f.Text)
	}
	l, _, _ := Scan(s, 9)
	k, _, _ := Scan(s, 9)
	if len(l) != 2 || len(k) != 2 || inside(l[0].Text, s) || inside(l[1].Text, s) {
		t.Fatalf("Scan: %v, %v", l, k)
	}
	l[0] = api.Frame{}
	_ = append(l[:1], api.Frame{})
	wantScan(t, s, 9, k, len(s), api.OK)
	if k[0].Text != text || k[1].Text != text {
		t.Errorf("a list of one answer changed another's: %v", k)
	}
}

// FuzzFrame (P4.2, P4.3): any bytes are read as the chapter says.
func FuzzFrame(f *testing.F) {
	a := plainFrame(7, "abc")
	f.Add("", 0)
	f.Add(a+a+"\x01", 9)
	f.Add(withSum("\x01\x01\x83\x00abc"), 3)
	f.Add(plainFrame(0, "")+a, 0)
	f.Fuzz(func(t *testing.T, s string, most int) {
		wantPlain(t, s, most)
		wantPlain(t, withSum(s), most)
	})
}

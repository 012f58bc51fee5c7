package num

import (
	"math"
	"math/big"
	"math/rand"
	"strconv"
	"strings"
	"testing"

	"thresher/api"
)

// plainBytes writes a number as the chapter's words tell it, from its binary digits.
func plainBytes(x uint64) string {
	digits := strconv.FormatUint(x, 2)
	digits = strings.Repeat("0", (7-len(digits)%7)%7) + digits
	var b []byte
	for end := len(digits); end > 0; end -= 7 {
		seven, err := strconv.ParseUint(digits[end-7:end], 2, 8)
		if err != nil {
			panic(err)
		}
		if end > 7 {
			seven += 128
		}
		b = append(b, byte(seven))
	}
	return string(b)
}

// plainZig is the number as which x stands, reckoned without a bound.
func plainZig(x int64) uint64 {
	b := new(big.Int).Mul(big.NewInt(x), big.NewInt(2))
	if x < 0 {
		b.Neg(big.NewInt(x)).Sub(b, big.NewInt(1)).Mul(b, big.NewInt(2)).Add(b, big.NewInt(1))
	}
	return b.Uint64()
}

// plainRead reads as P1.2 tells it, error by error.
func plainRead(s string) (uint64, int, api.Errno) {
	n, ended := 0, false
	for n < len(s) && n < 10 && !ended {
		ended = s[n] < 128
		n++
	}
	if !ended && n < 10 {
		return 0, 0, api.ErrShort
	}
	last := s[n-1]
	if !ended || last == 0 && n > 1 || n == 10 && last > 1 {
		return 0, 0, api.ErrForm
	}
	x := new(big.Int)
	for i := n - 1; i >= 0; i-- {
		x.Mul(x, big.NewInt(128)).Add(x, big.NewInt(int64(s[i]%128)))
	}
	if !x.IsUint64() {
		panic("a number of more than 64 bits")
	}
	return x.Uint64(), n, api.OK
}

// edgeNumbers are those at which bytes become more, and the greatest ones, with all beside them, and some drawn ones.
func edgeNumbers() []uint64 {
	l := []uint64{0, 1, 2, 63, 64, 65, 126, 127, 128, 129, 255, 256, 300, math.MaxUint64 - 1, math.MaxUint64}
	for k := range 64 {
		l = append(l, 1<<k-1, 1<<k, 1<<k+1)
	}
	r := rand.New(rand.NewSource(1))
	for range 2000 {
		l = append(l, r.Uint64()>>r.Intn(64))
	}
	return l
}

// edgeWholes are whole numbers of both signs, at the same edges.
func edgeWholes() []int64 {
	l := []int64{math.MinInt64, math.MinInt64 + 1, math.MaxInt64 - 1, math.MaxInt64}
	for _, x := range edgeNumbers() {
		l = append(l, int64(x), -int64(x))
	}
	return l
}

// wantRead fails unless Read and ReadInt of s answer what the chapter says.
func wantRead(t *testing.T, s string) {
	t.Helper()
	wx, wn, we := plainRead(s)
	if x, n, e := Read(s); x != wx || n != wn || e != we {
		t.Errorf("Read(%x): %d %d %v, want %d %d %v", s, x, n, e, wx, wn, we)
	}
	y, n, e := ReadInt(s)
	if n != wn || e != we || e == api.OK && plainZig(y) != wx || e != api.OK && y != 0 {
		t.Errorf("ReadInt(%x): %d %d %v, want what stands as %d, %d %v", s, y, n, e, wx, wn, we)
	}
}

// TestUint (P1.1): numbers whose bytes are written out, and those at all edges.
func TestUint(t *testing.T) {
	for _, c := range []struct {
		x    uint64
		want string
	}{
		{0, "\x00"},
		{1, "\x01"},
		{127, "\x7f"},
		{128, "\x80\x01"},
		{300, "\xac\x02"},
		{1<<14 - 1, "\xff\x7f"},
		{1 << 14, "\x80\x80\x01"},
		{1<<63 - 1, "\xff\xff\xff\xff\xff\xff\xff\xff\x7f"},
		{1 << 63, "\x80\x80\x80\x80\x80\x80\x80\x80\x80\x01"},
		{math.MaxUint64, "\xff\xff\xff\xff\xff\xff\xff\xff\xff\x01"},
	} {
		if s := Uint(c.x); s != c.want {
			t.Errorf("Uint(%d): %x, want %x", c.x, s, c.want)
		}
	}
	for _, x := range edgeNumbers() {
		if s, want := Uint(x), plainBytes(x); s != want {
			t.Errorf("Uint(%d): %x, want %x", x, s, want)
		}
	}
}

// TestSize (P1.1): as many as the bytes are.
func TestSize(t *testing.T) {
	for x, want := range map[uint64]int{0: 1, 1: 1, 127: 1, 128: 2, 1<<14 - 1: 2, 1 << 14: 3, 1<<63 - 1: 9, 1 << 63: 10, math.MaxUint64: 10} {
		if n := Size(x); n != want {
			t.Errorf("Size(%d): %d, want %d", x, n, want)
		}
	}
	for _, x := range edgeNumbers() {
		if n, want := Size(x), len(plainBytes(x)); n != want {
			t.Errorf("Size(%d): %d, want %d", x, n, want)
		}
	}
}

// TestZigZag (P1.1): whole numbers, and as what they stand.
func TestZigZag(t *testing.T) {
	for x, want := range map[int64]uint64{0: 0, -1: 1, 1: 2, -2: 3, 2: 4, -64: 127, 64: 128, math.MaxInt64: math.MaxUint64 - 1, math.MinInt64: math.MaxUint64} {
		if u := Zig(x); u != want {
			t.Errorf("Zig(%d): %d, want %d", x, u, want)
		}
		if y := Zag(want); y != x {
			t.Errorf("Zag(%d): %d, want %d", want, y, x)
		}
	}
	for _, x := range edgeWholes() {
		u := plainZig(x)
		if Zig(x) != u || Zag(u) != x {
			t.Errorf("%d, which stands as %d: Zig %d, Zag %d", x, u, Zig(x), Zag(u))
		}
	}
	for _, u := range edgeNumbers() {
		if plainZig(Zag(u)) != u {
			t.Errorf("Zag(%d): %d, which stands as %d", u, Zag(u), plainZig(Zag(u)))
		}
	}
}

// TestInt (P1.1): the bytes of what a whole number stands as.
func TestInt(t *testing.T) {
	for x, want := range map[int64]string{0: "\x00", -1: "\x01", 1: "\x02", -64: "\x7f", 64: "\x80\x01", -65: "\x81\x01", math.MaxInt64: "\xfe\xff\xff\xff\xff\xff\xff\xff\xff\x01", math.MinInt64: "\xff\xff\xff\xff\xff\xff\xff\xff\xff\x01"} {
		if s := Int(x); s != want {
			t.Errorf("Int(%d): %x, want %x", x, s, want)
		}
	}
	for _, x := range edgeWholes() {
		if s, want := Int(x), plainBytes(plainZig(x)); s != want {
			t.Errorf("Int(%d): %x, want %x", x, s, want)
		}
	}
}

// TestReadErrors (P1.2): each error, at its edges; beside one all else is zero (R2).
func TestReadErrors(t *testing.T) {
	nine, zeros := strings.Repeat("\xff", 9), strings.Repeat("\x80", 9)
	for _, c := range []struct {
		s    string
		want api.Errno
	}{
		{"", api.ErrShort},
		{"\x80", api.ErrShort},
		{"\xff\xff", api.ErrShort},
		{nine, api.ErrShort},
		{zeros, api.ErrShort},
		{"\x80\x00", api.ErrForm},
		{"\x80\x00\x01", api.ErrForm},
		{"\xff\x00", api.ErrForm},
		{"\x80\x80\x00", api.ErrForm},
		{zeros + "\x00", api.ErrForm},
		{nine + "\x00", api.ErrForm},
		{zeros + "\x02", api.ErrForm},
		{nine + "\x02", api.ErrForm},
		{nine + "\x7f", api.ErrForm},
		{nine + "\x80", api.ErrForm},
		{nine + "\xff", api.ErrForm},
		{nine + "\xff\x00", api.ErrForm},
		{nine + "\x80\x01", api.ErrForm},
		{nine + nine + nine, api.ErrForm},
	} {
		if x, n, e := Read(c.s); x != 0 || n != 0 || e != c.want {
			t.Errorf("Read(%x): %d %d %v, want 0 0 %v", c.s, x, n, e, c.want)
		}
		if x, n, e := ReadInt(c.s); x != 0 || n != 0 || e != c.want {
			t.Errorf("ReadInt(%x): %d %d %v, want 0 0 %v", c.s, x, n, e, c.want)
		}
	}
}

// TestReadNumbers (P1.2): the least and the greatest of each length, and what stands behind counts for nothing.
func TestReadNumbers(t *testing.T) {
	for _, c := range []struct {
		s string
		x uint64
		n int
	}{
		{"\x00", 0, 1},
		{"\x00\x00", 0, 1},
		{"\x00\x80", 0, 1},
		{"\x7f\xff", 127, 1},
		{"\x80\x01", 128, 2},
		{"\xff\x7f\x00", 1<<14 - 1, 2},
		{"\xff\xff\xff\xff\xff\xff\xff\xff\x7f", 1<<63 - 1, 9},
		{"\x80\x80\x80\x80\x80\x80\x80\x80\x80\x01", 1 << 63, 10},
		{"\xff\xff\xff\xff\xff\xff\xff\xff\xff\x01", math.MaxUint64, 10},
		{"\xff\xff\xff\xff\xff\xff\xff\xff\xff\x01\xff", math.MaxUint64, 10},
	} {
		if x, n, e := Read(c.s); x != c.x || n != c.n || e != api.OK {
			t.Errorf("Read(%x): %d %d %v, want %d %d", c.s, x, n, e, c.x, c.n)
		}
		if x, n, e := ReadInt(c.s); plainZig(x) != c.x || n != c.n || e != api.OK {
			t.Errorf("ReadInt(%x): %d %d %v, want what stands as %d, %d", c.s, x, n, e, c.x, c.n)
		}
	}
}

// TestReadAny (P1.2): all of up to two bytes; three of edge bytes; eight to twelve of them at whose end all bytes come by turns.
func TestReadAny(t *testing.T) {
	wantRead(t, "")
	for a := range 256 {
		wantRead(t, string([]byte{byte(a)}))
		for b := range 256 {
			wantRead(t, string([]byte{byte(a), byte(b)}))
		}
	}
	edges := "\x00\x01\x02\x7f\x80\x81\xfe\xff"
	for i := range len(edges) {
		for j := range len(edges) {
			for k := range len(edges) {
				wantRead(t, string([]byte{edges[i], edges[j], edges[k]}))
			}
		}
	}
	for n := 8; n <= 12; n++ {
		for _, first := range []string{"\x80", "\x81", "\xff"} {
			for last := range 256 {
				s := strings.Repeat(first, n-1) + string([]byte{byte(last)})
				wantRead(t, s)
				wantRead(t, s+"\x00")
				wantRead(t, s+"\xff")
			}
		}
	}
}

// TestReadDrawn (P1.2, R1): bytes of any length that are drawn, most of them 128 or more.
func TestReadDrawn(t *testing.T) {
	r := rand.New(rand.NewSource(2))
	for range 50000 {
		b := make([]byte, r.Intn(14))
		for i := range b {
			b[i] = byte(r.Intn(256))
			if r.Intn(4) > 0 {
				b[i] |= 128
			}
		}
		wantRead(t, string(b))
	}
}

// TestReadLong (R1): of a long text only its front is looked at.
func TestReadLong(t *testing.T) {
	long := strings.Repeat("\xff", 1<<20)
	if x, n, e := Read(long); x != 0 || n != 0 || e != api.ErrForm {
		t.Errorf("Read of many: %d %d %v", x, n, e)
	}
	if x, n, e := Read("\x05" + long); x != 5 || n != 1 || e != api.OK {
		t.Errorf("Read of a number ahead of many: %d %d %v", x, n, e)
	}
}

// TestReadWritten (P1.3): what was written is read as itself, whatever stands behind; cut off anywhere it is short.
func TestReadWritten(t *testing.T) {
	behind := []string{"", "\x00", "\x01", "\x7f", "\x80", "\xff", "\x80\x00", strings.Repeat("\xff", 12)}
	for _, x := range edgeNumbers() {
		s := Uint(x)
		for _, z := range behind {
			if y, n, e := Read(s + z); y != x || n != len(s) || e != api.OK {
				t.Errorf("Read(%x %x): %d %d %v, want %d", s, z, y, n, e, x)
			}
		}
		for k := range len(s) {
			if y, n, e := Read(s[:k]); y != 0 || n != 0 || e != api.ErrShort {
				t.Errorf("Read(%x), of %x: %d %d %v", s[:k], s, y, n, e)
			}
		}
	}
	for _, x := range edgeWholes() {
		s := Int(x)
		for _, z := range behind {
			if y, n, e := ReadInt(s + z); y != x || n != len(s) || e != api.OK {
				t.Errorf("ReadInt(%x %x): %d %d %v, want %d", s, z, y, n, e, x)
			}
		}
		for k := range len(s) {
			if y, n, e := ReadInt(s[:k]); y != 0 || n != 0 || e != api.ErrShort {
				t.Errorf("ReadInt(%x), of %x: %d %d %v", s[:k], s, y, n, e)
			}
		}
	}
}

// TestOtherBytes (P1.3): of all texts of one or two bytes those that are read to their end are just the numbers' bytes.
func TestOtherBytes(t *testing.T) {
	numbers := map[string]uint64{}
	for x := range uint64(1 << 14) {
		numbers[plainBytes(x)] = x
	}
	check := func(s string) {
		want, is := numbers[s]
		x, n, e := Read(s)
		if whole := e == api.OK && n == len(s); whole != is || whole && x != want {
			t.Errorf("Read(%x): %d %d %v; is it a number's: %v, of %d", s, x, n, e, is, want)
		}
	}
	for a := range 256 {
		check(string([]byte{byte(a)}))
		for b := range 256 {
			check(string([]byte{byte(a), byte(b)}))
		}
	}
}

// TestErrorText (R7): the errors that this layer tells, by number and text.
func TestErrorText(t *testing.T) {
	for s, want := range map[string]string{"\x80": "error 10", "\x80\x00": "error 8", "\x05": "error 0"} {
		_, _, e := Read(s)
		var err error = e
		if err.Error() != want {
			t.Errorf("Read(%x): %q, want %q", s, err.Error(), want)
		}
	}
}

// FuzzRead (P1.2, P1.3): any bytes are read as the chapter says, and what is read is written as it was.
func FuzzRead(f *testing.F) {
	for _, s := range []string{"", "\x00", "\x80\x00", "\xac\x02", "\xff\xff\xff\xff\xff\xff\xff\xff\xff\x01", "\xff\xff\xff\xff\xff\xff\xff\xff\xff\x02"} {
		f.Add(s)
	}
	f.Fuzz(func(t *testing.T, s string) {
		wantRead(t, s)
		if x, n, e := Read(s); e == api.OK && Uint(x) != s[:n] {
			t.Errorf("Uint(%d): %x, was read of %x", x, Uint(x), s[:n])
		}
	})
}

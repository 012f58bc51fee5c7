package sum

import (
	"hash/crc32"
	"math"
	"math/rand"
	"strings"
	"testing"
)

// powers are the divisor's, as the chapter lists them.
var powers = []int{32, 28, 27, 26, 25, 23, 22, 20, 19, 18, 14, 13, 11, 10, 9, 8, 6, 0}

// bitsOf are the bits of a text, of each byte from the lowest to the highest one.
func bitsOf(s string) []int {
	var l []int
	for i := range len(s) {
		for k := range 8 {
			l = append(l, int(s[i]>>k&1))
		}
	}
	return l
}

// plainOf is the sum as the chapter's words tell it, bit by bit.
func plainOf(s string) uint32 {
	l := append(bitsOf(s), make([]int, 32)...)
	for i := range 32 {
		l[i] ^= 1
	}
	for i := 0; i+32 < len(l); i++ {
		if l[i] == 1 {
			for _, p := range powers {
				l[i+32-p] ^= 1
			}
		}
	}
	x := uint32(0)
	for i, b := range l[len(l)-32:] {
		x |= uint32(1-b) << i
	}
	return x
}

// textOf has the four bytes whose sum is a: the divisor's last power is 0, so each step of the division can be undone.
func textOf(t *testing.T, a uint32) string {
	t.Helper()
	divisor := uint32(0)
	for _, p := range powers[1:] {
		divisor |= 1 << (31 - p)
	}
	r := ^a
	for range 32 {
		if r>>31 == 1 {
			r = (r^divisor)<<1 | 1
		} else {
			r <<= 1
		}
	}
	r = ^r
	s := string([]byte{byte(r), byte(r >> 8), byte(r >> 16), byte(r >> 24)})
	if x := plainOf(s); x != a {
		t.Fatalf("a text of sum %x: %x, whose sum is %x", a, s, x)
	}
	return s
}

// grid is what bytes 0 make of the 32 bits of a sum, one by one.
type grid [32]uint32

// of adds up what g makes of the bits of a.
func (g grid) of(a uint32) uint32 {
	x := uint32(0)
	for i := range g {
		if a>>i&1 == 1 {
			x ^= g[i]
		}
	}
	return x
}

// plainJoin is Join by the chapter's words for each n, of grids for powers of two of bytes.
func plainJoin(t *testing.T, a, b uint32, n int) uint32 {
	t.Helper()
	if n < 0 {
		return 0
	}
	var g grid
	none := plainOf(textOf(t, 0) + "\x00")
	for i := range g {
		g[i] = plainOf(textOf(t, 1<<i)+"\x00") ^ none
	}
	for ; n > 0; n >>= 1 {
		if n&1 == 1 {
			a = g.of(a)
		}
		var twice grid
		for i := range g {
			twice[i] = g.of(g[i])
		}
		g = twice
	}
	return a ^ b
}

// drawn is a text of n bytes that are drawn.
func drawn(r *rand.Rand, n int) string {
	b := make([]byte, n)
	r.Read(b)
	return string(b)
}

// texts are those of edge lengths, of like bytes and of drawn ones.
func texts() []string {
	r := rand.New(rand.NewSource(1))
	l := []string{"a", "123456789", "The quick brown fox jumps over the lazy dog", "\u00e4\u4e16"}
	for _, n := range []int{0, 1, 2, 3, 4, 5, 7, 8, 9, 31, 32, 33, 63, 64, 65, 255, 256, 257, 1000} {
		l = append(l, strings.Repeat("\x00", n), strings.Repeat("\xff", n), strings.Repeat("\x80", n), drawn(r, n), drawn(r, n))
	}
	return l
}

// sums are numbers with few bits, with most of them, and drawn ones: that is, no text's that is at hand.
func sums() []uint32 {
	l := []uint32{0, 1, 1 << 31, math.MaxUint32, math.MaxUint32 - 1, math.MaxInt32, 0x01020304, 0xe3069283}
	for k := range 32 {
		l = append(l, 1<<k, ^uint32(1<<k))
	}
	r := rand.New(rand.NewSource(2))
	for range 100 {
		l = append(l, r.Uint32())
	}
	return l
}

// TestKnownSums (P2.1): the chapter's examples, and sums that others tell of the same checksum.
func TestKnownSums(t *testing.T) {
	up, down := "", ""
	for i := range 32 {
		up += string([]byte{byte(i)})
		down += string([]byte{byte(31 - i)})
	}
	for s, want := range map[string]uint32{
		"":                         0,
		"123456789":                0xe3069283,
		"a":                        0xc1d04330,
		strings.Repeat("\x00", 32): 0x8a9136aa,
		strings.Repeat("\xff", 32): 0x62a8ab43,
		up:                         0x46dd794e,
		down:                       0x113fdb5c,
	} {
		if x := Of(s); x != want {
			t.Errorf("Of(%x): %x, want %x", s, x, want)
		}
		if x := plainOf(s); x != want {
			t.Errorf("the chapter's words, of %x: %x, want %x", s, x, want)
		}
	}
}

// TestOf (P2.1): all of one byte, all bits of short texts one by one, and texts of edge lengths.
func TestOf(t *testing.T) {
	l := texts()
	for a := range 256 {
		l = append(l, string([]byte{byte(a)}), string([]byte{byte(a), 0}), string([]byte{0, byte(a)}))
	}
	for n := 1; n <= 6; n++ {
		for i := range 8 * n {
			b := make([]byte, n)
			b[i/8] = 1 << (i % 8)
			l = append(l, string(b))
		}
	}
	for _, s := range l {
		if x, want := Of(s), plainOf(s); x != want {
			t.Errorf("Of(%x): %x, want %x", s, x, want)
		}
	}
}

// TestLong (P2.1, R1): long texts, against another's sums of the same kind.
func TestLong(t *testing.T) {
	r := rand.New(rand.NewSource(3))
	for _, n := range []int{1<<16 - 1, 1 << 16, 1<<16 + 1, 1 << 20, 1<<22 + 3} {
		s := drawn(r, n)
		want := crc32.Checksum([]byte(s), crc32.MakeTable(crc32.Castagnoli))
		if x := Of(s); x != want {
			t.Errorf("Of %d bytes: %x, want %x", n, x, want)
		}
		k := r.Intn(n)
		if x := On(Of(s[:k]), s[k:]); x != want {
			t.Errorf("On, %d of %d bytes: %x, want %x", k, n, x, want)
		}
		if x := Join(Of(s[:k]), Of(s[k:]), n-k); x != want {
			t.Errorf("Join, %d of %d bytes: %x, want %x", k, n, x, want)
		}
	}
}

// TestOnParts (P2.1): a text cut anywhere has the sum of the whole; no text behind changes nothing.
func TestOnParts(t *testing.T) {
	for _, s := range texts() {
		if len(s) > 100 {
			continue
		}
		want, bit := plainOf(s), uint32(0)
		for k := range len(s) + 1 {
			if x := On(Of(s[:k]), s[k:]); x != want {
				t.Errorf("On(Of(%x), %x): %x, want %x", s[:k], s[k:], x, want)
			}
		}
		for i := range len(s) {
			bit = On(bit, s[i:i+1])
		}
		if bit != want {
			t.Errorf("On, byte by byte of %x: %x, want %x", s, bit, want)
		}
	}
}

// TestOnAny (P2.1): each number is the sum of some text, and goes on as that text's.
func TestOnAny(t *testing.T) {
	for _, a := range sums() {
		before := textOf(t, a)
		if x := Of(before); x != a {
			t.Errorf("Of(%x): %x, want %x", before, x, a)
		}
		for _, s := range []string{"", "\x00", "\x01", "\x80", "\xff", "abc", "\x00\x00\x00\x00", "123456789"} {
			if x, want := On(a, s), plainOf(before+s); x != want {
				t.Errorf("On(%x, %x): %x, want %x", a, s, x, want)
			}
		}
	}
}

// TestJoinWords (P2.1): Join is what the chapter says of On, of any two numbers, for lengths that can be written out.
func TestJoinWords(t *testing.T) {
	r := rand.New(rand.NewSource(4))
	for _, a := range sums() {
		b, n := r.Uint32(), r.Intn(300)
		for _, n := range []int{0, 1, 2, 3, 4, 5, n} {
			z := strings.Repeat("\x00", n)
			before := textOf(t, a)
			want := plainOf(before+z) ^ plainOf(textOf(t, 0)+z) ^ b
			if x := Join(a, b, n); x != want {
				t.Errorf("Join(%x, %x, %d): %x, want %x", a, b, n, x, want)
			}
			if x := On(a, z) ^ On(0, z) ^ b; x != want {
				t.Errorf("On(%x, z), On(0, z) and %x, of %d: %x, want %x", a, b, n, x, want)
			}
		}
	}
}

// TestJoinEdges (P2.1, R1): no bytes behind, fewer than none, and as many as an int can tell.
func TestJoinEdges(t *testing.T) {
	for _, a := range sums() {
		for _, b := range []uint32{0, 1, math.MaxUint32, 0xe3069283, a} {
			if x := Join(a, b, 0); x != a^b {
				t.Errorf("Join(%x, %x, 0): %x, want %x", a, b, x, a^b)
			}
			for _, n := range []int{-1, -2, -1 << 31, math.MinInt + 1, math.MinInt} {
				if x := Join(a, b, n); x != 0 {
					t.Errorf("Join(%x, %x, %d): %x, want 0", a, b, n, x)
				}
			}
		}
	}
	r := rand.New(rand.NewSource(5))
	l := []int{math.MaxInt, math.MaxInt - 1, math.MaxInt / 8, math.MaxInt/8 + 1, math.MaxInt32, math.MaxInt32 - 1}
	for k := range 62 {
		l = append(l, math.MaxInt>>k, math.MaxInt>>k-1, math.MaxInt>>k+math.MinInt, r.Int()>>k)
	}
	for _, n := range l {
		a, b := r.Uint32(), r.Uint32()
		if x, want := Join(a, b, n), plainJoin(t, a, b, n); x != want {
			t.Errorf("Join(%x, %x, %d): %x, want %x", a, b, n, x, want)
		}
	}
}

// TestJoinTurns (P2.1): by this divisor 2^31 - 1 bytes behind leave a sum as it is, so one of more goes as far as what it has beyond that.
func TestJoinTurns(t *testing.T) {
	const round = math.MaxInt32
	for _, a := range sums() {
		if x := Join(a, 7, round); x != a^7 {
			t.Errorf("Join(%x, 7, %d): %x, want %x", a, round, x, a^7)
		}
		for _, n := range []int{1, 2, 1 << 10, 1 << 20, 1 << 30, round - 1} {
			want := Join(a, 7, n)
			if x := Join(a, 7, n+round); x != want {
				t.Errorf("Join(%x, 7, %d): %x, want %x", a, n+round, x, want)
			}
			if x := Join(Join(a, 0, n), 7, round-n); x != a^7 {
				t.Errorf("Join by %d and by %d of %x: %x, want %x", n, round-n, a, x, a^7)
			}
		}
	}
}

// TestBytes (P2.2): four bytes, the lowest first.
func TestBytes(t *testing.T) {
	for a, want := range map[uint32]string{
		0:              "\x00\x00\x00\x00",
		1:              "\x01\x00\x00\x00",
		0x80:           "\x80\x00\x00\x00",
		0x100:          "\x00\x01\x00\x00",
		0x01020304:     "\x04\x03\x02\x01",
		0xe3069283:     "\x83\x92\x06\xe3",
		1 << 31:        "\x00\x00\x00\x80",
		math.MaxUint32: "\xff\xff\xff\xff",
	} {
		if s := Bytes(a); s != want {
			t.Errorf("Bytes(%x): %x, want %x", a, s, want)
		}
	}
	for _, a := range sums() {
		s := Bytes(a)
		if len(s) != 4 || uint32(s[0])+uint32(s[1])<<8+uint32(s[2])<<16+uint32(s[3])<<24 != a {
			t.Errorf("Bytes(%x): %x", a, s)
		}
	}
}

// TestIs (P2.2): the sum's bytes are, others are not: too few, too many, in another order, with a bit turned, another text's.
func TestIs(t *testing.T) {
	for _, s := range texts() {
		a := plainOf(s)
		right := string([]byte{byte(a), byte(a >> 8), byte(a >> 16), byte(a >> 24)})
		if !Is(s, right) {
			t.Errorf("Is(%x, %x): false", s, right)
		}
		wrong := []string{"", right + "\x00", right + "\xff", "\x00" + right, right + right, s + right}
		for k := range 4 {
			wrong = append(wrong, right[:k], right[k+1:])
		}
		for i := range 32 {
			b := []byte(right)
			b[i/8] ^= 1 << (i % 8)
			wrong = append(wrong, string(b))
		}
		wrong = append(wrong, string([]byte{right[3], right[2], right[1], right[0]}))
		wrong = append(wrong, Bytes(plainOf(s+"\x00")), Bytes(^a))
		for _, w := range wrong {
			if w != right && Is(s, w) {
				t.Errorf("Is(%x, %x): true, the sum's bytes are %x", s, w, right)
			}
		}
	}
	if Is("a", "\x30\x43\xd0") || Is("", "") || !Is("", "\x00\x00\x00\x00") {
		t.Error("Is, of no text, or with too few bytes")
	}
}

// turned is s with bits turned: those of mask, from the bit at on.
func turned(s string, at int, mask uint32) string {
	b := []byte(s)
	for k := range 32 {
		if mask>>k&1 == 1 {
			b[(at+k)/8] ^= 1 << ((at + k) % 8)
		}
	}
	return string(b)
}

// TestTurnedBits (P2.3): bits turned within 32 in a row, wherever these begin, are told.
func TestTurnedBits(t *testing.T) {
	r := rand.New(rand.NewSource(6))
	masks := []uint32{1, 3, 0xff, 0xffff, math.MaxUint32, 1<<31 | 1, 1<<31 + 1<<16 + 1, 0x82f63b78, 0x05ec76f1, 0x1edc6f41}
	for n := 4; n <= 40; n += 3 {
		s := drawn(r, n)
		a := Of(s)
		for at := 0; at+32 <= 8*n; at++ {
			more := []uint32{r.Uint32() | 1, r.Uint32()>>r.Intn(31) | 1}
			for _, mask := range append(more, masks...) {
				z := turned(s, at, mask)
				if Of(z) == a || Is(z, Bytes(a)) {
					t.Errorf("%x and %x: both of sum %x", s, z, a)
				}
			}
		}
	}
}

// TestShortTexts (P2.3): texts of one length up to four bytes have sums of their own: all of two bytes, and all whose bits stand in two places of four.
func TestShortTexts(t *testing.T) {
	seen := map[uint32]int{}
	for x := range 1 << 16 {
		a := Of(string([]byte{byte(x), byte(x >> 8)}))
		if y, ok := seen[a]; ok {
			t.Errorf("two bytes %x and %x: both of sum %x", x, y, a)
		}
		seen[a] = x
	}
	clear(seen)
	for x := range 1 << 16 {
		a := Of(string([]byte{byte(x), 0, 7, byte(x >> 8)}))
		if y, ok := seen[a]; ok {
			t.Errorf("four bytes of %x and %x: both of sum %x", x, y, a)
		}
		seen[a] = x
	}
}

// TestJoinTexts (P2.3): the sum of two texts together is Join of theirs, and the second one's length; so it is of three, by whichever two are taken first.
func TestJoinTexts(t *testing.T) {
	r := rand.New(rand.NewSource(7))
	for _, s := range texts() {
		for _, z := range []string{"", "\x00", "a", drawn(r, r.Intn(100))} {
			want := plainOf(s + z)
			if x := Join(Of(s), Of(z), len(z)); x != want {
				t.Errorf("Join of the sums of %x and %x: %x, want %x", s, z, x, want)
			}
			three := plainOf(s + z + s)
			first := Join(Join(Of(s), Of(z), len(z)), Of(s), len(s))
			last := Join(Of(s), Join(Of(z), Of(s), len(s)), len(z)+len(s))
			if first != three || last != three {
				t.Errorf("Join of three, %x, %x, %x: %x and %x, want %x", s, z, s, first, last, three)
			}
		}
	}
}

// TestSameAgain (R6): what was asked before changes no answer.
func TestSameAgain(t *testing.T) {
	for _, s := range texts() {
		a := Of(s)
		On(a, "more")
		Join(a, a, math.MaxInt)
		Bytes(a)
		if x := Of(s); x != a || !Is(s, Bytes(a)) {
			t.Errorf("Of(%x): %x, then %x", s, a, x)
		}
	}
}

// FuzzSum (P2.1, P2.2, P2.3): of any two texts, and of any length, the sums are as the chapter says.
func FuzzSum(f *testing.F) {
	f.Add("", "", 0)
	f.Add("12345", "6789", 4)
	f.Add("\x00", "\xff", -1)
	f.Add("a", "", math.MaxInt)
	f.Fuzz(func(t *testing.T, s, z string, n int) {
		a, b, want := plainOf(s), plainOf(z), plainOf(s+z)
		if Of(s) != a || On(a, z) != want || Join(a, b, len(z)) != want || !Is(s+z, Bytes(want)) {
			t.Errorf("%x and %x: %x, %x, %x, want %x", s, z, Of(s), On(a, z), Join(a, b, len(z)), want)
		}
		if x, want := Join(a, b, n), plainJoin(t, a, b, n); x != want {
			t.Errorf("Join(%x, %x, %d): %x, want %x", a, b, n, x, want)
		}
	})
}

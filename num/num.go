// Package num has numbers as bytes: the smaller, the fewer.
package num

import (
	"math/bits"

	"thresher/api"
)

const (
	width = 7          // bits of a number in one byte
	more  = 1 << width // what a byte has more, if another one stands behind it
	most  = 10         // bytes that 64 bits take
)

// Uint has the bytes of x.
func Uint(x uint64) string {
	var b [most]byte
	n := 0
	for ; x >= more; n++ {
		b[n] = byte(x) | more
		x >>= width
	}
	b[n] = byte(x)
	return string(b[:n+1])
}

// Int has the bytes of the number as which x stands.
func Int(x int64) string { return Uint(Zig(x)) }

// Size is how many bytes x has.
func Size(x uint64) int {
	// 0 has no bit that is 1, and one byte all the same.
	return (bits.Len64(x|1) + width - 1) / width
}

// Read reads the number at the front of s, and tells how many bytes it has.
func Read(s string) (x uint64, n int, e api.Errno) {
reading:
	for {
		switch {
		case n == most:
			return 0, 0, api.ErrForm
		case n == len(s):
			return 0, 0, api.ErrShort
		case s[n] < more:
			break reading
		}
		x |= uint64(s[n]-more) << (width * n)
		n++
	}
	last := s[n]
	if !ends(last, n) {
		return 0, 0, api.ErrForm
	}
	return x | uint64(last)<<(width*n), n + 1, api.OK
}

// ends tells whether a number's last byte may be this one, with so many ahead of it.
func ends(last byte, ahead int) bool {
	if ahead == 0 {
		return true
	}
	// A last 0 would be a second way to write a number; of a tenth byte only one bit is left of 64.
	return last != 0 && (ahead < most-1 || last == 1)
}

// ReadInt reads the whole number at the front of s, and tells how many bytes it has.
func ReadInt(s string) (x int64, n int, e api.Errno) {
	u, n, e := Read(s)
	return Zag(u), n, e
}

// Zig is the number as which x stands.
func Zig(x int64) uint64 {
	// The shift by 63 spreads the sign: all bits 1 below 0, else none.
	return uint64(x<<1) ^ uint64(x>>63)
}

// Zag is the whole number that stands as u.
func Zag(u uint64) int64 { return int64(u>>1) ^ -int64(u&1) }

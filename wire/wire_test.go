package wire

import (
	"fmt"
	"math"
	"math/rand"
	"slices"
	"strings"
	"testing"
	"unsafe"

	"thresher/api"
	"thresher/num"
)

// full is the number of most bytes that there is: ten of them.
const full = "\xff\xff\xff\xff\xff\xff\xff\xff\xff\x01"

// call is a call of a reader, by its name, with what is handed in.
type call struct {
	name        string
	most        uint64
	least, high int64
	bound       int
	of          []uint64
}

func (c call) String() string {
	switch c.name {
	case "Uint":
		return fmt.Sprintf("Uint(%d)", c.most)
	case "Int":
		return fmt.Sprintf("Int(%d, %d)", c.least, c.high)
	case "Tag":
		return fmt.Sprintf("Tag(%v)", c.of)
	case "Text", "Count":
		return fmt.Sprintf("%s(%d)", c.name, c.bound)
	}
	return c.name + "()"
}

func aUint(most uint64) call      { return call{name: "Uint", most: most} }
func aInt(least, high int64) call { return call{name: "Int", least: least, high: high} }
func aText(bound int) call        { return call{name: "Text", bound: bound} }
func aCount(bound int) call       { return call{name: "Count", bound: bound} }
func aTag(of ...uint64) call      { return call{name: "Tag", of: of} }
func aBool() call                 { return call{name: "Bool"} }
func aEnd() call                  { return call{name: "End"} }

// on does the call on a reader, and answers what it answers.
func (c call) on(r *Reader) any {
	switch c.name {
	case "Uint":
		return r.Uint(c.most)
	case "Int":
		return r.Int(c.least, c.high)
	case "Text":
		return r.Text(c.bound)
	case "Count":
		return r.Count(c.bound)
	case "Tag":
		return r.Tag(c.of...)
	case "Bool":
		return r.Bool()
	}
	return r.End()
}

// zero is what the call answers if there is a fault, but of End.
func (c call) zero() any {
	switch c.name {
	case "Uint", "Tag":
		return uint64(0)
	case "Int":
		return int64(0)
	case "Text":
		return ""
	case "Count":
		return 0
	}
	return false
}

// plain is a reader as the chapter's words tell it.
type plain struct {
	left  string
	fault api.Errno
}

// does the call as P3.2 to P3.4 tell it, fault by fault.
func (p *plain) does(c call) any {
	if c.name == "End" {
		if p.fault == api.OK && p.left != "" {
			p.fault = api.ErrForm
		}
		return p.fault
	}
	if p.fault != api.OK {
		return c.zero()
	}
	answer, n, e := c.plainly(p.left)
	if e != api.OK {
		p.fault = e
		return c.zero()
	}
	p.left = p.left[n:]
	return answer
}

// plainly is what the call answers of these bytes, how many it takes, and the fault that it finds.
func (c call) plainly(s string) (any, int, api.Errno) {
	x, n, e := num.Read(s)
	if e != api.OK {
		return nil, 0, e
	}
	behind := s[n:]
	y, _, _ := num.ReadInt(s)
	switch c.name {
	case "Uint":
		if x > c.most {
			return nil, 0, api.ErrOver
		}
		return x, n, api.OK
	case "Int":
		if y < c.least || y > c.high {
			return nil, 0, api.ErrOver
		}
		return y, n, api.OK
	case "Bool":
		if x != 0 && x != 1 {
			return nil, 0, api.ErrForm
		}
		return x == 1, n, api.OK
	case "Tag":
		for _, t := range c.of {
			if t == x {
				return x, n, api.OK
			}
		}
		return nil, 0, api.ErrForm
	}
	if c.bound < 0 || x > uint64(c.bound) {
		return nil, 0, api.ErrLong
	}
	if x > uint64(len(behind)) {
		return nil, 0, api.ErrShort
	}
	if c.name == "Count" {
		return int(x), n, api.OK
	}
	return behind[:x], n + int(x), api.OK
}

// wantCalls fails unless a reader of s answers each of these calls, one behind the other, as a plain one does.
func wantCalls(t *testing.T, s string, l ...call) {
	t.Helper()
	r, p := New(s), &plain{left: s}
	for i, c := range l {
		got, want := c.on(r), p.does(c)
		if got != want || r.Err() != p.fault || r.Left() != len(p.left) {
			t.Fatalf("%x, %v: the last one answers %v, left %d, %v; want %v, left %d, %v", s, l[:i+1], got, r.Left(), r.Err(), want, len(p.left), p.fault)
		}
	}
}

// one is what a call answers of bytes, with what is left and the fault then.
type one struct {
	s    string
	c    call
	want any
	left int
	e    api.Errno
}

// wantOnes fails unless each call answers so, and takes nothing if it finds a fault.
func wantOnes(t *testing.T, l []one) {
	t.Helper()
	for _, x := range l {
		r := New(x.s)
		if got := x.c.on(r); got != x.want || r.Left() != x.left || r.Err() != x.e {
			t.Errorf("%x, %v: %v, left %d, %v; want %v, left %d, %v", x.s, x.c, got, r.Left(), r.Err(), x.want, x.left, x.e)
		}
	}
}

// TestUints (P3.1): numbers one behind the other; none handed in.
func TestUints(t *testing.T) {
	for want, l := range map[string][]uint64{
		"":                        {},
		"\x00":                    {0},
		"\x05\xac\x02":            {5, 300},
		"\x00\x00\x7f\x80\x01":    {0, 0, 127, 128},
		full + "\x00" + full:      {math.MaxUint64, 0, math.MaxUint64},
		strings.Repeat("\x07", 9): {7, 7, 7, 7, 7, 7, 7, 7, 7},
	} {
		if s := Uints(l...); s != want {
			t.Errorf("Uints(%v): %x, want %x", l, s, want)
		}
	}
	if Uints() != "" || Uints(nil...) != "" {
		t.Error("Uints of none")
	}
}

// TestInts (P3.1): whole numbers one behind the other; none handed in.
func TestInts(t *testing.T) {
	for want, l := range map[string][]int64{
		"":                     {},
		"\x00":                 {0},
		"\x01\x0e":             {-1, 7},
		"\x02\x7f\x80\x01\x03": {1, -64, 64, -2},
		full:                   {math.MinInt64},
		"\xfe" + full[1:]:      {math.MaxInt64},
	} {
		if s := Ints(l...); s != want {
			t.Errorf("Ints(%v): %x, want %x", l, s, want)
		}
	}
	if Ints() != "" || Ints(nil...) != "" {
		t.Error("Ints of none")
	}
}

// TestTexts (P3.1): texts one behind the other, each with its length, of any bytes; none handed in.
func TestTexts(t *testing.T) {
	a127, a128 := strings.Repeat("a", 127), strings.Repeat("a", 128)
	for want, l := range map[string][]string{
		"":                               {},
		"\x00":                           {""},
		"\x00\x00":                       {"", ""},
		"\x01a\x00\x02bc":                {"a", "", "bc"},
		"\x03\x00\xff\x80":               {"\x00\xff\x80"},
		"\x7f" + a127:                    {a127},
		"\x80\x01" + a128 + "\x01a":      {a128, "a"},
		"\x02\u00e4" + "\x03" + "\u4e16": {"\u00e4", "\u4e16"},
	} {
		if s := Texts(l...); s != want {
			t.Errorf("Texts(%q): %x, want %x", l, s, want)
		}
	}
	if Texts() != "" || Texts(nil...) != "" {
		t.Error("Texts of none")
	}
}

// TestBools (P3.1): truths one behind the other; none handed in.
func TestBools(t *testing.T) {
	for want, l := range map[string][]bool{
		"":                 {},
		"\x00":             {false},
		"\x01":             {true},
		"\x01\x00\x00\x01": {true, false, false, true},
	} {
		if s := Bools(l...); s != want {
			t.Errorf("Bools(%v): %x, want %x", l, s, want)
		}
	}
	if Bools() != "" || Bools(nil...) != "" {
		t.Error("Bools of none")
	}
}

// TestArguments (R5): lists that are handed in stay as they were, and aren't kept.
func TestArguments(t *testing.T) {
	u, i, s, b, of := []uint64{300, 5}, []int64{-1, 7}, []string{"b", "a"}, []bool{true, false}, []uint64{9, 3}
	Uints(u...)
	Ints(i...)
	Texts(s...)
	Bools(b...)
	r := New("\x03\x03")
	first := r.Tag(of...)
	if !slices.Equal(u, []uint64{300, 5}) || !slices.Equal(i, []int64{-1, 7}) || !slices.Equal(s, []string{"b", "a"}) || !slices.Equal(b, []bool{true, false}) || !slices.Equal(of, []uint64{9, 3}) {
		t.Error("a list was changed")
	}
	of[1] = 4
	if second := r.Tag(of...); first != 3 || second != 0 || r.Err() != api.ErrForm {
		t.Errorf("Tag: %d, then %d, %v", first, second, r.Err())
	}
}

// TestUint (P3.2): the bound itself, and one beyond; no bytes; no number's bytes ahead of the bound.
func TestUint(t *testing.T) {
	none := uint64(0)
	wantOnes(t, []one{
		{"\x05", aUint(5), uint64(5), 0, api.OK},
		{"\x05", aUint(4), none, 1, api.ErrOver},
		{"\x05ab", aUint(6), uint64(5), 2, api.OK},
		{"\x05ab", aUint(0), none, 3, api.ErrOver},
		{"\x00", aUint(0), none, 0, api.OK},
		{"\x01", aUint(0), none, 1, api.ErrOver},
		{"\xac\x02", aUint(300), uint64(300), 0, api.OK},
		{"\xac\x02", aUint(299), none, 2, api.ErrOver},
		{full, aUint(math.MaxUint64), uint64(math.MaxUint64), 0, api.OK},
		{full, aUint(math.MaxUint64 - 1), none, 10, api.ErrOver},
		{"", aUint(5), none, 0, api.ErrShort},
		{"\x80", aUint(0), none, 1, api.ErrShort},
		{"\xff\xff", aUint(9), none, 2, api.ErrShort},
		{"\x80\x00", aUint(9), none, 2, api.ErrForm},
		{full[:9] + "\x02", aUint(0), none, 10, api.ErrForm},
		{full[:9] + "\xff\x01", aUint(math.MaxUint64), none, 11, api.ErrForm},
	})
}

// TestInt (P3.2): both bounds, and one beyond each; bounds that nothing lies between.
func TestInt(t *testing.T) {
	none := int64(0)
	wantOnes(t, []one{
		{"\x01", aInt(-1, 0), int64(-1), 0, api.OK},
		{"\x01", aInt(0, 9), none, 1, api.ErrOver},
		{"\x0e", aInt(0, 7), int64(7), 0, api.OK},
		{"\x0e", aInt(0, 6), none, 1, api.ErrOver},
		{"\x0ea", aInt(7, 7), int64(7), 1, api.OK},
		{"\x0e", aInt(8, 9), none, 1, api.ErrOver},
		{"\x0e", aInt(8, 6), none, 1, api.ErrOver},
		{"\x0e", aInt(9, 5), none, 1, api.ErrOver},
		{"\x00", aInt(1, -1), none, 1, api.ErrOver},
		{"\x00", aInt(0, 0), none, 0, api.OK},
		{"\x03", aInt(-2, -2), int64(-2), 0, api.OK},
		{full, aInt(math.MinInt64, math.MaxInt64), int64(math.MinInt64), 0, api.OK},
		{full, aInt(math.MinInt64+1, math.MaxInt64), none, 10, api.ErrOver},
		{"\xfe" + full[1:], aInt(math.MinInt64, math.MaxInt64), int64(math.MaxInt64), 0, api.OK},
		{"\xfe" + full[1:], aInt(math.MinInt64, math.MaxInt64-1), none, 10, api.ErrOver},
		{"", aInt(1, 0), none, 0, api.ErrShort},
		{"\x80", aInt(1, 0), none, 1, api.ErrShort},
		{"\x80\x00", aInt(1, 0), none, 2, api.ErrForm},
	})
}

// TestBool (P3.2): both truths; numbers that are none; no number's bytes.
func TestBool(t *testing.T) {
	wantOnes(t, []one{
		{"\x01", aBool(), true, 0, api.OK},
		{"\x00", aBool(), false, 0, api.OK},
		{"\x01\x02", aBool(), true, 1, api.OK},
		{"\x02", aBool(), false, 1, api.ErrForm},
		{"\x7f", aBool(), false, 1, api.ErrForm},
		{"\x81\x01", aBool(), false, 2, api.ErrForm},
		{full, aBool(), false, 10, api.ErrForm},
		{"\x81\x00", aBool(), false, 2, api.ErrForm},
		{"", aBool(), false, 0, api.ErrShort},
		{"\x81", aBool(), false, 1, api.ErrShort},
	})
}

// TestTag (P3.2): the first and the last of the tags; one that is none of these; none handed in.
func TestTag(t *testing.T) {
	none := uint64(0)
	wantOnes(t, []one{
		{"\x01", aTag(1, 2), uint64(1), 0, api.OK},
		{"\x02", aTag(1, 2), uint64(2), 0, api.OK},
		{"\x02a", aTag(7, 2, 2, 1), uint64(2), 1, api.OK},
		{"\x03", aTag(1, 2), none, 1, api.ErrForm},
		{"\x03", aTag(2, 4), none, 1, api.ErrForm},
		{"\x00", aTag(1), none, 1, api.ErrForm},
		{"\x00", aTag(0), none, 0, api.OK},
		{"\x00", aTag(), none, 1, api.ErrForm},
		{"\xac\x02", aTag(1, 300), uint64(300), 0, api.OK},
		{"\xac\x02", aTag(44), none, 2, api.ErrForm},
		{full, aTag(math.MaxUint64), uint64(math.MaxUint64), 0, api.OK},
		{"", aTag(), none, 0, api.ErrShort},
		{"\x83", aTag(3), none, 1, api.ErrShort},
		{"\x83\x00", aTag(3), none, 2, api.ErrForm},
	})
}

// TestText (P3.3): the bound itself, and one beyond; a bound below 0; fewer bytes than told; each fault ahead of the next one.
func TestText(t *testing.T) {
	wantOnes(t, []one{
		{"\x02ab", aText(2), "ab", 0, api.OK},
		{"\x02ab", aText(1), "", 3, api.ErrLong},
		{"\x02abc", aText(9), "ab", 1, api.OK},
		{"\x02\x00\xff", aText(9), "\x00\xff", 0, api.OK},
		{"\x02a", aText(9), "", 2, api.ErrShort},
		{"\x02a", aText(2), "", 2, api.ErrShort},
		{"\x02a", aText(1), "", 2, api.ErrLong},
		{"\x02", aText(2), "", 1, api.ErrShort},
		{"\x00", aText(0), "", 0, api.OK},
		{"\x00a", aText(0), "", 1, api.OK},
		{"\x01a", aText(0), "", 2, api.ErrLong},
		{"\x00", aText(-1), "", 1, api.ErrLong},
		{"\x01a", aText(-1), "", 2, api.ErrLong},
		{"\x02", aText(math.MinInt), "", 1, api.ErrLong},
		{"", aText(-1), "", 0, api.ErrShort},
		{"\x80", aText(-1), "", 1, api.ErrShort},
		{"\x80\x00", aText(-1), "", 2, api.ErrForm},
		{full + "a", aText(math.MaxInt), "", 11, api.ErrLong},
		{num.Uint(1 << 63), aText(math.MaxInt), "", 10, api.ErrLong},
		{num.Uint(1<<63 - 1), aText(math.MaxInt), "", 9, api.ErrShort},
		{num.Uint(1<<32 + 1), aText(math.MaxInt), "", 5, api.ErrShort},
	})
}

// TestCount (P3.3): likewise, and the number alone is taken.
func TestCount(t *testing.T) {
	wantOnes(t, []one{
		{"\x02ab", aCount(2), 2, 2, api.OK},
		{"\x02ab", aCount(1), 0, 3, api.ErrLong},
		{"\x02abc", aCount(9), 2, 3, api.OK},
		{"\x02a", aCount(9), 0, 2, api.ErrShort},
		{"\x02a", aCount(1), 0, 2, api.ErrLong},
		{"\x01", aCount(1), 0, 1, api.ErrShort},
		{"\x00", aCount(0), 0, 0, api.OK},
		{"\x00a", aCount(9), 0, 1, api.OK},
		{"\x00", aCount(-1), 0, 1, api.ErrLong},
		{"\x02ab", aCount(-1), 0, 3, api.ErrLong},
		{"\x02ab", aCount(math.MinInt), 0, 3, api.ErrLong},
		{"", aCount(-1), 0, 0, api.ErrShort},
		{"\x80", aCount(-1), 0, 1, api.ErrShort},
		{"\x80\x00", aCount(-1), 0, 2, api.ErrForm},
		{"\x80\x01" + strings.Repeat("a", 128), aCount(128), 128, 128, api.OK},
		{"\x80\x01" + strings.Repeat("a", 127), aCount(128), 0, 129, api.ErrShort},
		{full, aCount(math.MaxInt), 0, 10, api.ErrLong},
		{num.Uint(1 << 63), aCount(math.MaxInt), 0, 10, api.ErrLong},
		{num.Uint(1<<63 - 1), aCount(math.MaxInt), 0, 9, api.ErrShort},
	})
}

// TestFaultStays (P3.4): behind each fault, found by each call, all calls take nothing and answer zero, though the bytes would do.
func TestFaultStays(t *testing.T) {
	good := []call{aUint(math.MaxUint64), aInt(math.MinInt64, math.MaxInt64), aText(9), aBool(), aCount(9), aTag(1), aEnd()}
	for _, x := range []struct {
		c    call
		want api.Errno
	}{
		{aUint(0), api.ErrOver},
		{aInt(0, 9), api.ErrOver},
		{aText(0), api.ErrLong},
		{aCount(-1), api.ErrLong},
		{aTag(2), api.ErrForm},
		{aEnd(), api.ErrForm},
	} {
		r := New("\x01a\x01a")
		x.c.on(r)
		for range 2 {
			for _, c := range good {
				want := c.zero()
				if c.name == "End" {
					want = x.want
				}
				if got := c.on(r); got != want || r.Err() != x.want || r.Left() != 4 {
					t.Errorf("behind %v, %v: %v, left %d, %v; want %v, left 4, %v", x.c, c, got, r.Left(), r.Err(), want, x.want)
				}
			}
		}
	}
	for s, want := range map[string]api.Errno{"": api.ErrShort, "\x80": api.ErrShort, "\x80\x00\x01": api.ErrForm, "\x02": api.ErrForm} {
		r := New(s)
		if r.Bool() || r.Err() != want || r.Uint(9) != 0 || r.End() != want || r.Left() != len(s) {
			t.Errorf("%x: %v, left %d, want %v", s, r.Err(), r.Left(), want)
		}
	}
}

// TestFirstFault (P3.4): a fault in the midst stays, and what was taken ahead of it is gone.
func TestFirstFault(t *testing.T) {
	r := New("\x05\x02ab\x03\x01")
	if r.Uint(5) != 5 || r.Text(2) != "ab" || r.Left() != 2 || r.Err() != api.OK {
		t.Fatalf("left %d, %v", r.Left(), r.Err())
	}
	if r.Bool() || r.Err() != api.ErrForm || r.Left() != 2 {
		t.Errorf("a truth 3: left %d, %v", r.Left(), r.Err())
	}
	if r.Uint(2) != 0 || r.Text(0) != "" || r.Uint(3) != 0 || r.Err() != api.ErrForm || r.End() != api.ErrForm || r.Left() != 2 {
		t.Errorf("behind it: left %d, %v", r.Left(), r.Err())
	}
}

// TestEnd (P3.4): bytes that are left are a fault, and it stays; none are none, and all may be asked again.
func TestEnd(t *testing.T) {
	r := New("\x01\x01")
	if !r.Bool() || r.Err() != api.OK || r.End() != api.ErrForm || r.Err() != api.ErrForm || r.Left() != 1 {
		t.Errorf("bytes left: %v, left %d", r.Err(), r.Left())
	}
	if r.Bool() || r.Left() != 1 || r.End() != api.ErrForm {
		t.Errorf("behind it: %v, left %d", r.Err(), r.Left())
	}
	r = New("")
	if r.End() != api.OK || r.End() != api.OK || r.Err() != api.OK || r.Left() != 0 {
		t.Errorf("no bytes: %v", r.Err())
	}
	if r.Uint(9) != 0 || r.Err() != api.ErrShort || r.End() != api.ErrShort {
		t.Errorf("one beyond the end: %v", r.Err())
	}
}

// TestNil (P3.4, R3): a reader that is nil, or that New did not make, answers zero values, and ErrNil of Err and End.
func TestNil(t *testing.T) {
	var none *Reader
	for i, r := range []*Reader{none, {}, new(Reader)} {
		for range 2 {
			for _, c := range []call{aUint(9), aInt(-9, 9), aText(9), aBool(), aCount(9), aTag(0, 1), aUint(0), aText(-1), aTag()} {
				if got := c.on(r); got != c.zero() {
					t.Errorf("%d, %v: %v", i, c, got)
				}
			}
			if r.Left() != 0 || r.Err() != api.ErrNil || r.End() != api.ErrNil {
				t.Errorf("%d: left %d, %v, %v", i, r.Left(), r.Err(), r.End())
			}
		}
	}
	if New("").Err() != api.OK {
		t.Error("a reader of no bytes is one")
	}
}

// TestExamples: the chapter's, as they stand there.
func TestExamples(t *testing.T) {
	wantOnes(t, []one{
		{"\x05", aUint(4), uint64(0), 1, api.ErrOver},
		{"\x05", aUint(5), uint64(5), 0, api.OK},
		{"\x02\x61", aText(9), "", 2, api.ErrShort},
		{"\x02\x61\x62", aText(1), "", 3, api.ErrLong},
		{"\x03", aTag(1, 2), uint64(0), 1, api.ErrForm},
		{"\x01", aBool(), true, 0, api.OK},
	})
}

// TestApart (R6): readers of the same bytes know nothing of each other.
func TestApart(t *testing.T) {
	s := Texts("ab", "cd")
	a, b := New(s), New(s)
	if a.Text(1) != "" || a.Err() != api.ErrLong || b.Err() != api.OK || b.Text(2) != "ab" || a.Left() != 6 || b.Text(2) != "cd" || b.End() != api.OK {
		t.Errorf("%v, %v", a.Err(), b.Err())
	}
}

// TestNewMemory (R5): a text shares no memory with the bytes that it was read of.
func TestNewMemory(t *testing.T) {
	s := Texts("abcdefgh", "ijklmnop")
	from := uintptr(unsafe.Pointer(unsafe.StringData(s)))
	r := New(s)
	for range 2 {
		x := r.Text(8)
		if at := uintptr(unsafe.Pointer(unsafe.StringData(x))); len(x) != 8 || at >= from && at < from+uintptr(len(s)) {
			t.Errorf("%q stands in the bytes that it was read of", x)
		}
	}
}

// brick is bytes, how they are read, and as what.
type brick struct {
	s    string
	c    call
	want any
}

// drawnBrick draws a brick, with bounds that let it pass, often just so.
func drawnBrick(r *rand.Rand) brick {
	x := r.Uint64() >> r.Intn(64)
	y := int64(x) * int64(1-2*r.Intn(2))
	high, least := x, y
	if high < math.MaxUint64 && r.Intn(2) == 0 {
		high++
	}
	if least > math.MinInt64 && r.Intn(2) == 0 {
		least--
	}
	text := strings.Repeat(string([]byte{byte(x)}), r.Intn(200)>>r.Intn(8))
	switch r.Intn(5) {
	case 0:
		return brick{Uints(x), aUint(high), x}
	case 1:
		return brick{Ints(y), aInt(least, y), y}
	case 2:
		return brick{Texts(text), aText(len(text) + r.Intn(2)), text}
	case 3:
		return brick{Bools(x&1 == 1), aBool(), x&1 == 1}
	}
	return brick{Uints(x), aTag(x/2, x, x/3), x}
}

// readAll reads these bricks of s, and answers how many were read as they were written, and the reader.
func readAll(s string, l []brick) (int, *Reader) {
	r := New(s)
	for i, b := range l {
		if got := b.c.on(r); got != b.want || r.Err() != api.OK {
			return i, r
		}
	}
	return len(l), r
}

// TestWritten (P3.5): what was written, one behind the other, is read as itself, and nothing is left; cut off anywhere it is short.
func TestWritten(t *testing.T) {
	r := rand.New(rand.NewSource(1))
	for range 2000 {
		l := make([]brick, r.Intn(12))
		s := ""
		for i := range l {
			l[i] = drawnBrick(r)
			s += l[i].s
		}
		n, whole := readAll(s, l)
		if n != len(l) || whole.Left() != 0 || whole.End() != api.OK {
			t.Fatalf("%x, %v: %d of them, left %d, %v", s, l, n, whole.Left(), whole.End())
		}
		for k := range len(s) {
			if n, cut := readAll(s[:k], l); n == len(l) || cut.Err() != api.ErrShort || cut.End() != api.ErrShort {
				t.Fatalf("%x, cut off at %d, %v: %d of them, %v", s, k, l, n, cut.Err())
			}
		}
		if n, more := readAll(s+"\x00", l); n != len(l) || more.Left() != 1 || more.End() != api.ErrForm {
			t.Fatalf("%x and a byte, %v: %d of them, left %d, %v", s, l, n, more.Left(), more.End())
		}
	}
}

// TestList (P3.5): things that are told by a count are read as they were written; cut off anywhere they are short.
func TestList(t *testing.T) {
	read := func(s string) ([]string, api.Errno) {
		r := New(s)
		var l []string
		for range r.Count(9) {
			l = append(l, r.Text(200))
		}
		return l, r.End()
	}
	for _, l := range [][]string{nil, {""}, {"a", "", "bc"}, {strings.Repeat("x", 200), "\x00", ""}, {"", "", "", "", "", "", "", "", ""}} {
		s := Uints(uint64(len(l))) + Texts(l...)
		if got, e := read(s); e != api.OK || !slices.Equal(got, l) {
			t.Errorf("%x: %q, %v, want %q", s, got, e, l)
		}
		for k := range len(s) {
			if _, e := read(s[:k]); e != api.ErrShort {
				t.Errorf("%x, cut off at %d: %v", s, k, e)
			}
		}
	}
}

// edgeCalls are calls with all kinds of bounds.
func edgeCalls() []call {
	l := []call{aBool(), aEnd(), aTag(), aTag(0), aTag(1, 2), aTag(127, 128, 255, 300), aTag(math.MaxUint64)}
	for _, most := range []uint64{0, 1, 2, 127, 128, 300, math.MaxUint64 - 1, math.MaxUint64} {
		l = append(l, aUint(most))
	}
	for _, least := range []int64{math.MinInt64, -64, -1, 0, 1, 64} {
		for _, high := range []int64{-65, -1, 0, 1, 63, math.MaxInt64} {
			l = append(l, aInt(least, high))
		}
	}
	for _, bound := range []int{math.MinInt, -1, 0, 1, 2, 3, 127, math.MaxInt} {
		l = append(l, aText(bound), aCount(bound))
	}
	return l
}

// TestAny (P3.2 to P3.4): each call on all texts of up to two bytes, and on edge bytes, each with a second call behind it.
func TestAny(t *testing.T) {
	l := []string{"", full, full[:9], full[:9] + "\x00", full[:9] + "\x02", full[:9] + "\x80", "\xfe" + full[1:], full + "\x01a"}
	for a := range 256 {
		l = append(l, string([]byte{byte(a)}))
		for _, b := range []byte("\x00\x01\x02\x03\x7f\x80\xff") {
			l = append(l, string([]byte{byte(a), b}), string([]byte{byte(a), b, 1, b, 0}))
		}
	}
	calls := edgeCalls()
	for _, s := range l {
		for i, c := range calls {
			wantCalls(t, s, c, calls[(i*7+3)%len(calls)], aBool(), aEnd())
		}
	}
}

// TestDrawn (P3.2 to P3.5, R1): drawn calls, of drawn bytes most of which are small.
func TestDrawn(t *testing.T) {
	r := rand.New(rand.NewSource(2))
	calls := edgeCalls()
	for range 20000 {
		b := make([]byte, r.Intn(30))
		for i := range b {
			b[i] = byte(r.Intn(256) >> r.Intn(8))
		}
		l := make([]call, r.Intn(12))
		for i := range l {
			l[i] = calls[r.Intn(len(calls))]
		}
		wantCalls(t, string(b), l...)
	}
}

// FuzzReader (P3.2 to P3.4): any bytes are read by any calls as the chapter says.
func FuzzReader(f *testing.F) {
	f.Add("", "")
	f.Add("\x05\xac\x02\x01\x0e\x01a\x00\x01\x00", "\x09\x0a\x0b\x00\x01")
	f.Add(full+"\x80\x00", "\x02\x03\x04")
	f.Fuzz(func(t *testing.T, s, which string) {
		calls := edgeCalls()
		var l []call
		for i := range len(which) {
			l = append(l, calls[int(which[i])%len(calls)])
		}
		wantCalls(t, s, l...)
	})
}

package branch

import (
	"math"
	"math/rand"
	"slices"
	"strings"
	"testing"
	"unsafe"

	"thresher/api"
)

// plainMay goes by the chapter's words: at most 12 bytes, each from 1 to 16.
func plainMay(s string) bool {
	good := 0
	for _, b := range []byte(s) {
		if b > 0 && b < 17 {
			good++
		}
	}
	return good == len(s) && good < 13
}

// plainAhead tells whether a comes ahead of b: b begins with it and goes on, or its byte is less where they differ first.
func plainAhead(a, b string) bool {
	for i := 0; i < len(a) && i < len(b); i++ {
		if a[i] != b[i] {
			return a[i] < b[i]
		}
	}
	return len(a) < len(b)
}

func plainCompare(a, b string) int {
	switch {
	case plainAhead(a, b):
		return -1
	case plainAhead(b, a):
		return 1
	}
	return 0
}

// plainUnder tells whether root is one of path's beginnings.
func plainUnder(path, root string) bool {
	for n := 0; n <= len(path); n++ {
		if path[:n] == root {
			return plainMay(path) && plainMay(root)
		}
	}
	return false
}

// plainCommon is the longest beginning of a that is one of b, too.
func plainCommon(a, b string) (s string) {
	for n := 0; n <= len(a) && n <= len(b); n++ {
		if a[:n] == b[:n] && plainMay(a) && plainMay(b) {
			s = a[:n]
		}
	}
	return s
}

// plainSort puts each text where all that come ahead of it are ahead of it.
func plainSort(l []string) (s []string) {
	for _, x := range l {
		at := 0
		for at < len(s) && !plainAhead(x, s[at]) {
			at++
		}
		s = slices.Insert(s, at, x)
	}
	return s
}

// kids are numbers that may be a child's, and that may not.
var kids = []int{math.MinInt, math.MinInt32, -256, -255, -2, -1, 0, 1, 2, 8, 15, 16, 17, 18, 127, 128, 255, 256, 257, 272, 273, 1 << 32, 1<<32 + 1, math.MaxInt}

// hold holds all that is told of a path against what the chapter says of it.
func hold(t *testing.T, s string) {
	t.Helper()
	is := plainMay(s)
	if May(s) != is {
		t.Fatalf("May(%q): %v", s, !is)
	}
	parent, last, child := "", 0, is && len(s) > 0
	if child {
		parent, last = s[:len(s)-1], int(s[len(s)-1])
	}
	if p, x := Parent(s); p != parent || x != child {
		t.Fatalf("Parent(%q): %q, %v, want %q, %v", s, p, x, parent, child)
	}
	if n := Last(s); n != last {
		t.Fatalf("Last(%q): %d, want %d", s, n, last)
	}
	for _, n := range kids {
		kid, may := "", is && len(s) < 12 && n > 0 && n < 17
		if may {
			kid = string(append([]byte(s), byte(n)))
		}
		if k, x := Kid(s, n); k != kid || x != may {
			t.Fatalf("Kid(%q, %d): %q, %v, want %q, %v", s, n, k, x, kid, may)
		}
	}
}

// holdTwo holds all that is told of two paths against what the chapter says of them.
func holdTwo(t *testing.T, a, b string) {
	t.Helper()
	if x, w := Under(a, b), plainUnder(a, b); x != w {
		t.Fatalf("Under(%q, %q): %v, want %v", a, b, x, w)
	}
	if x, w := Compare(a, b), plainCompare(a, b); x != w {
		t.Fatalf("Compare(%q, %q): %d, want %d", a, b, x, w)
	}
	if x, w := Common(a, b), plainCommon(a, b); x != w {
		t.Fatalf("Common(%q, %q): %q, want %q", a, b, x, w)
	}
}

// holdSort holds what Sort tells of a list against what the chapter says of it; the list stays as it was.
func holdSort(t *testing.T, l []string) {
	t.Helper()
	was := slices.Clone(l)
	if s, w := Sort(l), plainSort(l); !slices.Equal(s, w) {
		t.Fatalf("Sort(%q): %q, want %q", was, s, w)
	}
	if !slices.Equal(l, was) {
		t.Fatalf("%q was changed: it is %q", was, l)
	}
}

// all is every text of at most n bytes that are each one of these.
func all(n int, bytes ...byte) []string {
	l, last := []string{""}, []string{""}
	for range n {
		var next []string
		for _, s := range last {
			for _, b := range bytes {
				next = append(next, s+string([]byte{b}))
			}
		}
		l, last = append(l, next...), next
	}
	return l
}

// long is n bytes that are all 1.
func long(n int) string { return strings.Repeat("\x01", n) }

// odd are texts that may not be, or only just may.
func odd() []string {
	return []string{
		"", "\x00", "\x01", "\x10", "\x11", "\x7f", "\x80", "\xff", "a", "é", "\u0101", "世", "\xed\xa0\x80",
		"\x01\x00", "\x00\x01", "\x01\x11", "\x11\x01", "\x01\x10", "\x10\x01", "\x01\xff", "\x01\u0001\x01",
		long(11), long(12), long(13), long(256), long(257), long(11) + "\x10", long(11) + "\x11", long(11) + "\x00", long(12) + "\x10",
		strings.Repeat("\x10", 12), strings.Repeat("\x10", 13), strings.Repeat("\x00", 12), strings.Repeat("\xff", 12),
		"\x0f" + long(11), long(5) + "\x00" + long(6), long(5) + "\x02" + long(6),
	}
}

// TestLimits: the limits that the chapter names are what this package's tests go by.
func TestLimits(t *testing.T) {
	if api.MaxKids != 16 || api.MaxDeep != 12 {
		t.Error(api.MaxKids, api.MaxDeep)
	}
}

// TestExamples: the chapter's examples.
func TestExamples(t *testing.T) {
	if k, is := Kid("\x01", 2); k != "\x01\x02" || !is {
		t.Errorf("Kid(01, 2): %q, %v", k, is)
	}
	if k, is := Kid("\x01", 17); k != "" || is {
		t.Errorf("Kid(01, 17): %q, %v", k, is)
	}
	if p, is := Parent("\x01\x02"); p != "\x01" || !is || Last("\x01\x02") != 2 {
		t.Errorf("Parent(01 02): %q, %v; Last: %d", p, is, Last("\x01\x02"))
	}
	if p, is := Parent(""); p != "" || is || Last("") != 0 {
		t.Errorf("Parent of none: %q, %v; Last: %d", p, is, Last(""))
	}
	if Compare("\x01", "\x01\x01") != -1 || Compare("\x02", "\x01\x05") != 1 {
		t.Error(Compare("\x01", "\x01\x01"), Compare("\x02", "\x01\x05"))
	}
	if !Under("\x01\x02", "\x01") || Common("\x01\x02", "\x01\x03") != "\x01" {
		t.Errorf("%v, %q", Under("\x01\x02", "\x01"), Common("\x01\x02", "\x01\x03"))
	}
}

// TestMay (P12.1): by hand, at the edges of a path's length and of its bytes.
func TestMay(t *testing.T) {
	for n := range 40 {
		if May(long(n)) != (n <= 12) || May(strings.Repeat("\x10", n)) != (n <= 12) {
			t.Errorf("%d bytes", n)
		}
	}
	for n := 1; n <= 12; n++ {
		for at := range n {
			for b := range 256 {
				s := []byte(strings.Repeat("\x07", n))
				s[at] = byte(b)
				if May(string(s)) != (b >= 1 && b <= 16) {
					t.Errorf("the byte %d at %d of %d", b, at, n)
				}
				hold(t, string(s))
			}
		}
	}
	if May(strings.Repeat("\x01", 1<<20)) {
		t.Error("a long text")
	}
}

// TestOne (P12.1): all that is told of one path, of texts that may be and that may not.
func TestOne(t *testing.T) {
	for _, s := range append(all(5, 0, 1, 2, 16, 17, 255), odd()...) {
		hold(t, s)
	}
}

// TestKid (P12.1): children of each number, down to the last generation; each knows its parent and its number.
func TestKid(t *testing.T) {
	for deep := range 15 {
		path := strings.Repeat("\x03", deep)
		for n := -300; n <= 300; n++ {
			k, is := Kid(path, n)
			if is != (deep < 12 && n >= 1 && n <= 16) || !is && k != "" {
				t.Errorf("Kid of %d generations, %d: %q, %v", deep, n, k, is)
			}
			if !is {
				continue
			}
			if p, has := Parent(k); p != path || !has || Last(k) != n || !May(k) || len(k) != deep+1 {
				t.Errorf("Kid of %d generations, %d: %q", deep, n, k)
			}
		}
	}
	for _, s := range []string{"\x00", "\x11", "\x01\x00", "a", long(13)} {
		if k, is := Kid(s, 1); k != "" || is {
			t.Errorf("Kid(%q, 1): %q, %v", s, k, is)
		}
	}
}

// TestNoParent (P12.1, R2): one whose last byte alone is good, or bad, has no parent and no number, if it may not be.
func TestNoParent(t *testing.T) {
	for _, s := range []string{"\x00", "\x11", "\xff", "\x00\x01", "\x01\x00", "\x11\x01", "\x01\x11", long(13), long(12) + "\x00", "b"} {
		if p, is := Parent(s); p != "" || is || Last(s) != 0 {
			t.Errorf("Parent(%q): %q, %v; Last: %d", s, p, is, Last(s))
		}
	}
}

// TestTwo (P12.2): all that is told of two paths, of texts that may be and that may not.
func TestTwo(t *testing.T) {
	l := append(all(3, 0, 1, 2, 16, 17, 255), odd()...)
	for _, a := range l {
		for _, b := range l {
			holdTwo(t, a, b)
		}
	}
}

// TestUnder (P12.2): by hand.
func TestUnder(t *testing.T) {
	for _, x := range []struct {
		path, root string
		is         bool
	}{
		{"", "", true},
		{"\x01", "", true},
		{"", "\x01", false},
		{"\x01", "\x01", true},
		{"\x01\x02\x03", "\x01", true},
		{"\x01\x02\x03", "\x01\x02", true},
		{"\x01\x02\x03", "\x02", false},
		{"\x01\x02\x03", "\x02\x03", false},
		{"\x01", "\x01\x01", false},
		{"\x10", "\x01", false},
		{long(12), long(12), true},
		{long(12), "", true},
		{long(13), "", false},
		{long(13), long(13), false},
		{long(12), long(13), false},
		{"\x00", "", false},
		{"\x00", "\x00", false},
		{"\x01\x00", "\x01", false},
		{"\x01", "\x00", false},
		{"\x11\x01", "\x11", false},
	} {
		if is := Under(x.path, x.root); is != x.is {
			t.Errorf("Under(%q, %q): %v", x.path, x.root, is)
		}
	}
}

// TestCompare (P12.2): by hand; any texts, whose bytes are held against each other as bytes.
func TestCompare(t *testing.T) {
	rising := []string{"", "\x00", "\x00\x00", "\x00\xff", "\x01", "\x01\x00", "\x01\x01", "\x01\x01\x01", "\x01\x02", "\x01\x10", "\x02", "\x02\x01", "\x10", "\x11", "a", "aa", "b", "\x7f", "\x80", "é", "\xff", "\xff\x00", "\xff\xff"}
	for i, a := range rising {
		for j, b := range rising {
			w := 0
			if i < j {
				w = -1
			} else if i > j {
				w = 1
			}
			if x := Compare(a, b); x != w {
				t.Errorf("Compare(%q, %q): %d, want %d", a, b, x, w)
			}
		}
	}
	x := strings.Repeat("x", 1<<20)
	if Compare(x, strings.Clone(x)) != 0 || Compare(x, x+"\x00") != -1 || Compare(x+"y", x+"x") != 1 {
		t.Error("long texts")
	}
}

// TestCommon (P12.2): by hand; nothing beside a text that may not be.
func TestCommon(t *testing.T) {
	for _, x := range []struct{ a, b, want string }{
		{"", "", ""},
		{"\x01", "", ""},
		{"\x01", "\x02", ""},
		{"\x01", "\x01", "\x01"},
		{"\x01\x02\x03", "\x01\x02", "\x01\x02"},
		{"\x01\x02\x03", "\x01\x04\x03", "\x01"},
		{"\x02\x02\x03", "\x01\x02\x03", ""},
		{long(12), long(12), long(12)},
		{long(12), long(11) + "\x02", long(11)},
		{long(13), long(12), ""},
		{long(13), long(13), ""},
		{"\x00", "\x00", ""},
		{"\x01\x00", "\x01", ""},
		{"\x01\x01", "\x01\x11", ""},
		{"ab", "ac", ""},
	} {
		if s := Common(x.a, x.b); s != x.want {
			t.Errorf("Common(%q, %q): %q, want %q", x.a, x.b, s, x.want)
		}
		if s := Common(x.b, x.a); s != x.want {
			t.Errorf("Common(%q, %q): %q, want %q", x.b, x.a, s, x.want)
		}
	}
}

// TestSort (P12.3): by hand.
func TestSort(t *testing.T) {
	for _, x := range []struct{ l, want []string }{
		{nil, nil},
		{[]string{}, nil},
		{[]string{""}, []string{""}},
		{[]string{"\x02", "\x01\x05", "\x01", ""}, []string{"", "\x01", "\x01\x05", "\x02"}},
		{[]string{"\x01", "\x01\x01", "\x01", "", "\x01\x01", ""}, []string{"", "", "\x01", "\x01", "\x01\x01", "\x01\x01"}},
		{[]string{"b", "\xff", "a", "\x00", "ab", long(13), long(12), "\x80"}, []string{"\x00", long(12), long(13), "a", "ab", "b", "\x80", "\xff"}},
		{[]string{"\x10", "\x02\x01", "\x02", "\x01\x10", "\x01\x02"}, []string{"\x01\x02", "\x01\x10", "\x02", "\x02\x01", "\x10"}},
	} {
		if s := Sort(x.l); !slices.Equal(s, x.want) {
			t.Errorf("Sort(%q): %q, want %q", x.l, s, x.want)
		}
		holdSort(t, x.l)
	}
}

// TestSortLists (P12.3, R6): lists of all texts of a kind, in drawn orders, some of them more than once; each twice.
func TestSortLists(t *testing.T) {
	r := rand.New(rand.NewSource(12))
	from := append(all(3, 0, 1, 2, 16, 17, 255), odd()...)
	for n := range 120 {
		l := make([]string, n)
		for i := range l {
			l[i] = from[r.Intn(min(len(from), 1+r.Intn(300)))]
		}
		holdSort(t, l)
		holdSort(t, l)
	}
	rising := plainSort(from)
	for range 20 {
		r.Shuffle(len(from), func(i, j int) { from[i], from[j] = from[j], from[i] })
		if s := Sort(from); !slices.Equal(s, rising) {
			t.Fatalf("%q", s)
		}
	}
	slices.Reverse(rising)
	holdSort(t, rising)
}

// TestGreatSort (P12.3): a list that is long is sorted, and nothing of it lost.
func TestGreatSort(t *testing.T) {
	r := rand.New(rand.NewSource(3))
	l := make([]string, 1<<17)
	count := map[string]int{}
	for i := range l {
		l[i] = drawn(r)
		count[l[i]]++
	}
	s := Sort(l)
	for i, x := range s {
		count[x]--
		if i > 0 && plainAhead(x, s[i-1]) {
			t.Fatalf("%q behind %q", x, s[i-1])
		}
	}
	for x, n := range count {
		if n != 0 {
			t.Errorf("%q: %d too few", x, n)
		}
	}
}

// drawn is a path that may be; often one that shares its beginning with others.
func drawn(r *rand.Rand) string {
	s := make([]byte, r.Intn(13))
	for i := range s {
		s[i] = byte(1 + r.Intn(1+r.Intn(16)))
	}
	return string(s)
}

// kin is a path, and one that comes from it, or stands beside it, or anywhere.
func kin(r *rand.Rand) (a, b string) {
	a, b = drawn(r), drawn(r)
	switch r.Intn(3) {
	case 0:
		b = (a + b)[:min(12, len(a)+len(b))]
	case 1:
		at := r.Intn(len(a) + 1)
		b = (a[:at] + b)[:min(12, at+len(b))]
	}
	return a, b
}

// TestDrawn (P12.1 to P12.3, R6): drawn paths, by two, each twice.
func TestDrawn(t *testing.T) {
	r := rand.New(rand.NewSource(1))
	under := 0
	for range 20000 {
		a, b := kin(r)
		for range 2 {
			hold(t, a)
			holdTwo(t, a, b)
			holdTwo(t, b, a)
		}
		if Under(b, a) && a != b {
			under++
		}
	}
	if under < 1000 {
		t.Errorf("%d of them were under the other one", under)
	}
}

// TestBetween (P12.4): of paths in order, those under one stand in a row, with it at their beginning.
func TestBetween(t *testing.T) {
	r := rand.New(rand.NewSource(4))
	l := all(4, 1, 2, 16)
	for range 80 {
		l = append(l, drawn(r))
	}
	l = Sort(l)
	for i, root := range l {
		ended := false
		for _, s := range l[i:] {
			switch is := Under(s, root); {
			case !is:
				ended = true
			case ended:
				t.Fatalf("%q is under %q, and one between them is not", s, root)
			}
		}
		for _, s := range l[:i] {
			if s != root && Under(s, root) {
				t.Fatalf("%q is under %q, and comes ahead of it", s, root)
			}
		}
	}
}

// TestLine (P12.4): a path is under just its parents, theirs, and itself.
func TestLine(t *testing.T) {
	r := rand.New(rand.NewSource(5))
	roots := append(all(4, 1, 2, 3), odd()...)
	for _, s := range append(all(6, 1, 2), drawn(r), drawn(r), drawn(r), long(12), long(11)+"\x10") {
		line := map[string]int{}
		for p, is := s, true; is; p, is = Parent(p) {
			line[p]++
			if !Under(s, p) || Common(s, p) != p || Compare(p, s) > 0 {
				t.Fatalf("%q, and %q above it", s, p)
			}
		}
		if len(line) != len(s)+1 {
			t.Fatalf("%q: %d above it", s, len(line)-1)
		}
		for _, root := range roots {
			if is := line[root] > 0; Under(s, root) != is {
				t.Fatalf("Under(%q, %q): %v", s, root, !is)
			}
		}
	}
}

// TestLastCommon (P12.4): both are under what they have in common, and under nothing further down together.
func TestLastCommon(t *testing.T) {
	l := all(4, 1, 2, 16)
	for _, a := range l {
		for _, b := range l {
			c := Common(a, b)
			if !Under(a, c) || !Under(b, c) || Under(a, b) != (c == b) {
				t.Fatalf("Common(%q, %q): %q", a, b, c)
			}
			for n := 1; n <= 16; n++ {
				if k, is := Kid(c, n); is && Under(a, k) && Under(b, k) {
					t.Fatalf("Common(%q, %q): %q", a, b, c)
				}
			}
		}
	}
}

// TestNewMemory (R5): no answer shares memory with an argument, or with another answer.
func TestNewMemory(t *testing.T) {
	a := strings.Clone("\x01\x02\x03\x04")
	p, _ := Parent(a)
	k, _ := Kid(a, 5)
	seen := map[*byte]int{unsafe.StringData(a): 1}
	for _, s := range append(Sort([]string{a, a}), p, k, Common(a, a), Common(a, p)) {
		if seen[unsafe.StringData(s)]++; seen[unsafe.StringData(s)] > 1 {
			t.Errorf("%q shares its memory", s)
		}
	}
	l := []string{"\x02", "\x01"}
	s, again := Sort(l), Sort(l)
	s[0] = "x"
	_ = append(s[:1], "y")
	if !slices.Equal(l, []string{"\x02", "\x01"}) || !slices.Equal(again, []string{"\x01", "\x02"}) {
		t.Errorf("%q, %q", l, again)
	}
	l[0], l[1] = "z", "z"
	if !slices.Equal(again, []string{"\x01", "\x02"}) {
		t.Errorf("%q", again)
	}
}

// FuzzPaths looks for texts of which something wrong is told.
func FuzzPaths(f *testing.F) {
	f.Add("", "", "")
	f.Add("\x01\x02", "\x01", "\x02")
	f.Add(long(12), long(13), "\x10\x11")
	f.Add("\x00", "\xff\xfe", "é")
	f.Fuzz(func(t *testing.T, a, b, c string) {
		for _, s := range []string{a, b, c, a + b} {
			hold(t, s)
			holdTwo(t, a, s)
			holdTwo(t, s, b)
		}
		holdSort(t, []string{a, b, c, a, a + b, ""})
	})
}

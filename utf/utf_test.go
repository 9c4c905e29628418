package utf

import (
	"math"
	"slices"
	"strings"
	"testing"
)

// isCodePoint is what the document calls a code point.
func isCodePoint(c int) bool { return c >= 0 && c <= 1114111 && !(c >= 55296 && c <= 57343) }

// bytesOf are a code point's bytes, reckoned as the document says it.
func bytesOf(c int) string {
	six := func(shift int) byte { return byte(128 + c>>shift%64) }
	switch {
	case c < 128:
		return string([]byte{byte(c)})
	case c < 2048:
		return string([]byte{byte(192 + c>>6), six(0)})
	case c < 65536:
		return string([]byte{byte(224 + c>>12), six(6), six(0)})
	}
	return string([]byte{byte(240 + c>>18), six(12), six(6), six(0)})
}

// known has each code point by its bytes.
func known() map[string]int {
	m := map[string]int{}
	for c := range 1114112 {
		if isCodePoint(c) {
			m[bytesOf(c)] = c
		}
	}
	return m
}

// begins tells what a text begins with, of what is known.
func begins(m map[string]int, s string) (int, int) {
	for n := 1; n <= min(4, len(s)); n++ {
		if c, ok := m[s[:n]]; ok {
			return c, n
		}
	}
	return -1, min(1, len(s))
}

// noCodePoints are numbers from the whole range that are no code points; some would be, if they were cut to fewer bits.
var noCodePoints = []int{
	-1, -97, -128, -65533, math.MinInt32, math.MinInt, math.MinInt + 97,
	0xD800, 0xD801, 0xDBFF, 0xDC00, 0xDFFE, 0xDFFF,
	0x110000, 0x110061, 0x1FFFFF, 0x200000, math.MaxInt32, math.MaxInt32 + 1,
	1 << 32, 1<<32 + 97, 1<<32 + 0xFFFD, 1<<40 + 0x20AC, math.MaxInt,
}

// wrongTexts begin with the bytes of no code point.
var wrongTexts = []string{
	"\x80", "\xbf", "\x80a", "\xc0", "\xc0\x80", "\xc1\xbf", "\xc2", "\xc2a", "\xc2\xc2\x80", "\xdf", "\xdf\x7f", "\xdf\xc0",
	"\xe0\x80\x80", "\xe0\x9f\xbf", "\xe0\xa0", "\xe0\xa0\x7f", "\xe2\x82", "\xe2\x82a", "\xe2a\x82",
	"\xed\xa0\x80", "\xed\xbf\xbf", "\xef", "\xef\xbf", "\xef\xbfa", "\xef\xbf\xc0",
	"\xf0\x80\x80\x80", "\xf0\x8f\xbf\xbf", "\xf0\x90\x80", "\xf0\x9f\x98", "\xf4\x90\x80\x80", "\xf5\x80\x80\x80",
	"\xf8\x88\x80\x80\x80", "\xfc\x84\x80\x80\x80\x80", "\xfe", "\xff",
}

// rightTexts are of code points alone, the one that the library tells of wrong bytes among them.
var rightTexts = []string{
	"", "a", "\x00", "\x00\x00", "é", "aé€😀", "\x7f\u0080\u07ff\u0800\uffff\U00010000\U0010ffff", "\ud7ff\ue000",
	"\ufffd", "a\ufffdb\ufffd", "\ufeff", strings.Repeat("x€", 3000),
}

// P2.1: all code points, and what is beside them.
func TestScalarLengthPut(t *testing.T) {
	for c := -70000; c < 1114112+70000; c++ {
		want := ""
		if isCodePoint(c) {
			want = bytesOf(c)
		}
		if is := Scalar(c); is != isCodePoint(c) {
			t.Fatalf("Scalar(%d): %v", c, is)
		}
		if n := Length(c); n != len(want) {
			t.Fatalf("Length(%d): %d", c, n)
		}
		if s := Put(c); s != want {
			t.Fatalf("Put(%d): %q", c, s)
		}
	}
}

// P2.1: the edges, written out.
func TestPutEdges(t *testing.T) {
	for c, want := range map[int]string{
		0: "\x00", 127: "\x7f", 128: "\xc2\x80", 233: "\xc3\xa9", 2047: "\xdf\xbf", 2048: "\xe0\xa0\x80",
		55295: "\xed\x9f\xbf", 57344: "\xee\x80\x80", 65533: "\xef\xbf\xbd", 65535: "\xef\xbf\xbf",
		65536: "\xf0\x90\x80\x80", 1114111: "\xf4\x8f\xbf\xbf",
	} {
		if s := Put(c); s != want || Length(c) != len(want) || !Scalar(c) {
			t.Errorf("Put(%d): %q, Length %d, Scalar %v", c, s, Length(c), Scalar(c))
		}
	}
}

// P2.1: numbers of the whole range that are none.
func TestNoCodePoints(t *testing.T) {
	for _, c := range noCodePoints {
		if Scalar(c) || Length(c) != 0 || Put(c) != "" {
			t.Errorf("%d: Scalar %v, Length %d, Put %q", c, Scalar(c), Length(c), Put(c))
		}
	}
}

// P2.2: Get of what begins with no code point, alone and with more behind it.
func TestGetWrong(t *testing.T) {
	for _, s := range wrongTexts {
		for _, tail := range []string{"", "a", "é", "\xff", "\x00"} {
			if c, n := Get(s + tail); c != -1 || n != 1 {
				t.Errorf("Get(%q): %d, %d", s+tail, c, n)
			}
		}
	}
	if c, n := Get(""); c != -1 || n != 0 {
		t.Errorf("Get of nothing: %d, %d", c, n)
	}
}

// P2.2: Get of every text of two bytes, and of texts of up to five with bytes beside all edges behind any first one, against what is known.
func TestGetAgainstKnown(t *testing.T) {
	m := known()
	check := func(b ...byte) {
		s := string(b)
		wantC, wantN := begins(m, s)
		if c, n := Get(s); c != wantC || n != wantN {
			t.Errorf("Get(%q): %d, %d, not %d, %d", s, c, n, wantC, wantN)
		}
	}
	edges := []byte{0, 'a', 0x7f, 0x80, 0x81, 0x8f, 0x90, 0x9f, 0xa0, 0xbf, 0xc0, 0xff}
	for i := range 256 {
		first := byte(i)
		check(first)
		for j := range 256 {
			check(first, byte(j))
		}
		for _, x := range edges {
			for _, y := range edges {
				check(first, x, y)
				for _, z := range edges {
					check(first, x, y, z)
				}
				check(first, x, y, 0x80, 0x80)
			}
		}
	}
}

// told is what Get tells, one by one, reckoned apart from All.
func told(s string) []int {
	var l []int
	for len(s) > 0 {
		c, n := Get(s)
		l = append(l, c)
		s = s[n:]
	}
	return l
}

// P2.2: All of right, wrong and mixed texts.
func TestAll(t *testing.T) {
	for s, want := range map[string][]int{
		"": {}, "a": {97}, "aé": {97, 233}, "a\xffé": {97, -1, 233}, "\xff": {-1}, "\xc0\x80": {-1, -1}, "é\x80": {233, -1},
		"\xe2\x82": {-1, -1}, "\xe2\x82\xac": {8364}, "\xe2\x82\xe2\x82\xac": {-1, -1, 8364}, "\xed\xa0\x80": {-1, -1, -1},
		"\xf4\x90\x80\x80": {-1, -1, -1, -1}, "\xf4\x8f\xbf\xbf": {1114111}, "\xf0\x9f\x98a": {-1, -1, -1, 97},
		"\ufffd": {65533}, "\ufffd\xff\ufffd": {65533, -1, 65533}, "\xef\xbf\ufffd": {-1, -1, 65533}, "\x00\x00": {0, 0},
	} {
		if l := All(s); !slices.Equal(l, want) {
			t.Errorf("All(%q): %v", s, l)
		}
	}
	for _, s := range append(slices.Clone(rightTexts), wrongTexts...) {
		for _, u := range []string{s, "a" + s, s + "é", s + "\ufffd" + s} {
			if l := All(u); !slices.Equal(l, told(u)) {
				t.Errorf("All(%q): %v", u, l)
			}
		}
	}
}

// P2.2: Join leaves out what is no code point, whatever the order.
func TestJoin(t *testing.T) {
	if s := Join(); s != "" {
		t.Errorf("Join of nothing: %q", s)
	}
	if s := Join([]int(nil)...); s != "" {
		t.Errorf("Join of nil: %q", s)
	}
	if s := Join(noCodePoints...); s != "" {
		t.Errorf("Join of no code points: %q", s)
	}
	for _, c := range noCodePoints {
		if s := Join(c, 97, c, c, 8364, c, 0, 0x10FFFF, c); s != "a€\x00\U0010ffff" {
			t.Errorf("Join around %d: %q", c, s)
		}
	}
	if s := Join(98, 97, 97, 0xFFFD, -1); s != "baa\ufffd" {
		t.Errorf("Join: %q", s)
	}
}

// P2.2: Valid just where All tells no -1.
func TestValid(t *testing.T) {
	for _, s := range rightTexts {
		if !Valid(s) || slices.Contains(All(s), -1) {
			t.Errorf("Valid(%q): %v, All %v", s, Valid(s), All(s))
		}
		for _, w := range wrongTexts {
			for _, u := range []string{w, s + w, w + s, s + w + s} {
				if Valid(u) || !slices.Contains(All(u), -1) {
					t.Errorf("Valid(%q): %v, All %v", u, Valid(u), All(u))
				}
			}
		}
	}
}

// P2.3: Get of Put, whatever follows.
func TestGetOfPut(t *testing.T) {
	tails := []string{"", "a", "\x00", "\x80", "\xbf\xbf\xbf", "é", "\xff", "\ufffd"}
	for c := range 1114112 {
		if !isCodePoint(c) {
			continue
		}
		for _, tail := range tails {
			if d, n := Get(Put(c) + tail); d != c || n != Length(c) {
				t.Fatalf("Get(Put(%d)+%q): %d, %d", c, tail, d, n)
			}
		}
	}
}

// P2.3: Join of All is the text, if it is Valid; else the text without its wrong bytes.
func TestJoinOfAll(t *testing.T) {
	var whole []int
	for c := range 1114112 {
		if isCodePoint(c) {
			whole = append(whole, c)
		}
	}
	long := Join(whole...)
	if !Valid(long) || !slices.Equal(All(long), whole) || Join(All(long)...) != long {
		t.Errorf("the text of all code points is not told right")
	}
	for _, s := range rightTexts {
		for _, u := range rightTexts {
			if v := Join(All(s + u)...); v != s+u {
				t.Errorf("Join(All(%q)): %q", s+u, v)
			}
		}
		if v := Join(All(s + "\xff\x80" + s)...); v != s+s {
			t.Errorf("Join(All) around wrong bytes: %q, not %q", v, s+s)
		}
	}
}

// What is handed in stays as it is, its spare room too, and what is handed out shares no memory.
func TestMemory(t *testing.T) {
	row := []int{97, -1, 98, 77}
	Join(row[:3]...)
	if !slices.Equal(row, []int{97, -1, 98, 77}) {
		t.Errorf("Join changed its list: %v", row)
	}
	for _, s := range []string{"ab", "a\xff"} {
		l, m := All(s), All(s)
		l[0] = 5
		if m[0] != 97 || All(s)[0] != 97 {
			t.Errorf("lists of All(%q) share memory", s)
		}
	}
}

package escape

import (
	"math"
	"regexp"
	"slices"
	"strconv"
	"strings"
	"testing"
	"unicode/utf8"

	"spool/api"
	"spool/named"
	"spool/ranges"
)

const top = api.MaxRune

// of are ranges, of two numbers each.
func of(n ...int) []api.Range {
	var l []api.Range
	for i := 0; i+1 < len(n); i += 2 {
		l = append(l, api.Range{Lo: n[i], Hi: n[i+1]})
	}
	return l
}

// aheads and behinds are what may stand about an escape.
var (
	aheads  = []string{"", "z", "\\", "\xff", "é{", "\\\\x"}
	behinds = []string{"", "z", "}", "{1}", "4", "\\", "\\n", "\xff", "\x80", "é", "\x00", "}}", "-", "]"}
)

// goes fails where an escape isn't told as a set, whatever stands about it.
func goes(t *testing.T, s string, want []api.Range) {
	t.Helper()
	for _, ahead := range aheads {
		for _, behind := range behinds {
			l, n, e := Parse(ahead+s+behind, len(ahead))
			if e != api.OK || n != len(ahead)+len(s) || !slices.Equal(l, want) {
				t.Fatalf("Parse(%q, %d): %v, %d, %v, not %v", ahead+s+behind, len(ahead), l, n, e, want)
			}
		}
	}
}

// fails fails where a text isn't told as an error alone, whatever stands ahead of it.
func fails(t *testing.T, s string, want api.Errno) {
	t.Helper()
	for _, ahead := range aheads {
		if l, n, e := Parse(ahead+s, len(ahead)); e != want || n != 0 || len(l) != 0 {
			t.Fatalf("Parse(%q, %d): %v, %d, %v, not %v", ahead+s, len(ahead), l, n, e, want)
		}
	}
}

// P11.1: letters and digits that stand for a number.
func TestLetters(t *testing.T) {
	for s, c := range map[string]int{`\0`: 0, `\a`: 7, `\e`: 27, `\t`: 9, `\n`: 10, `\v`: 11, `\f`: 12, `\r`: 13} {
		goes(t, s, of(c, c))
	}
}

// P11.1: each letter and digit with nothing behind it, by what it is.
func TestEachLetter(t *testing.T) {
	for want, all := range map[api.Errno]string{
		api.OK:             "0aetnvfrdwshDWSH",
		api.ErrUnsupported: "123456789bBAzZGkKQERX",
		api.ErrForm:        "xupPcgijlmoqyCFIJLMNOTUVY",
	} {
		for _, c := range []byte(all) {
			if l, n, e := Parse("\\"+string(rune(c)), 0); e != want || (e == api.OK) != (n == 2 && len(l) > 0) || e != api.OK && (n != 0 || len(l) != 0) {
				t.Errorf("%q: %v, %d, %v", c, l, n, e)
			}
		}
	}
}

// P11.1: what a letter that isn't listed, or isn't supported, is answered hangs on nothing behind it.
func TestWrongLetters(t *testing.T) {
	for _, behind := range append(behinds, "{41}", "{Digit}", "41", "}") {
		for _, c := range []byte("123456789bBAzZGkKQERX") {
			fails(t, "\\"+string(rune(c))+behind, api.ErrUnsupported)
		}
		for _, c := range []byte("cgijlmoqyCFIJLMNOTUVY") {
			fails(t, "\\"+string(rune(c))+behind, api.ErrForm)
		}
	}
}

// P11.1: all bytes that are no letter and no digit are themselves, or no code point.
func TestBytes(t *testing.T) {
	for c := range 256 {
		s := string([]byte{'\\', byte(c)})
		switch {
		case c >= 128:
			fails(t, s, api.ErrForm)
			fails(t, s+"n", api.ErrForm)
		case !strings.Contains(plain, s[1:]):
			goes(t, s, of(c, c))
		}
	}
}

// P11.1: all code points beyond the letters and digits are themselves.
func TestItself(t *testing.T) {
	for c := 128; c <= top; c++ {
		if c >= 0xd800 && c <= 0xdfff {
			continue
		}
		s := "\\" + string(rune(c))
		for _, behind := range []string{"", "z", "\x80"} {
			l, n, e := Parse(s+behind, 0)
			if e != api.OK || n != len(s) || len(l) != 1 || l[0].Lo != c || l[0].Hi != c {
				t.Fatalf("Parse(%q): %v, %d, %v", s+behind, l, n, e)
			}
		}
	}
	for _, c := range []rune{'é', 0x17f, 0x212a, 0x80, 0x7ff, 0x800, 0xd7ff, 0xe000, 0xfffd, 0xffff, 0x10000, 0x1f600, top, '１', 'ａ', 'Ａ', 256 + 'n', 256 + 'd', 256 + 'x', 256 + '1', 1<<16 + 'u'} {
		goes(t, "\\"+string(c), of(int(c), int(c)))
	}
}

// P11.1: bytes that are no code point's.
func TestNoCodePoint(t *testing.T) {
	for _, s := range []string{
		"\x80", "\xbf", "\xc0\x80", "\xc1\xbf", "\xc3", "\xc3n", "\xe2\x82", "\xe2\x82n", "\xed\xa0\x80", "\xed\xbf\xbf", "\xe0\x80\x80", "\xe0\x9f\xbf", "\xf0\x80\x80\x80", "\xf0\x8f\xbf\xbf",
		"\xf0\x9f\x98", "\xf0\x9f\x98n", "\xf4\x90\x80\x80", "\xf5\x80\x80\x80", "\xff", "\xfe\xff", "\xff\\n",
	} {
		fails(t, "\\"+s, api.ErrForm)
	}
}

// P11.1: two digits of 16, and whatever else two bytes are.
func TestTwo(t *testing.T) {
	for i := range 1 << 16 {
		a, b := byte(i>>8), byte(i)
		s := string([]byte{'\\', 'x', a, b})
		l, n, e := Parse(s, 0)
		if c, err := strconv.ParseUint(s[2:], 16, 8); err == nil {
			if e != api.OK || n != 4 || !slices.Equal(l, of(int(c), int(c))) {
				t.Fatalf("Parse(%q): %v, %d, %v", s, l, n, e)
			}
		} else if e != api.ErrForm || n != 0 || len(l) != 0 {
			t.Fatalf("Parse(%q): %v, %d, %v", s, l, n, e)
		}
	}
	for s, c := range map[string]int{`\x00`: 0, `\x41`: 65, `\x0a`: 10, `\xA0`: 160, `\xaF`: 175, `\xFa`: 250, `\xff`: 255, `\xFF`: 255, `\x7f`: 127, `\x99`: 153} {
		goes(t, s, of(c, c))
	}
	for _, s := range []string{`\x`, `\x4`, `\xf`, `\x4z`, `\xz4`, `\xzz`, `\x 4`, `\x4 `, `\x{41}`, `\x{4}`, `\x-1`, `\x+1`, `\x\x`, "\\x4\xff", "\\x\xff", "\\xé", `\X41`} {
		want := api.ErrForm
		if s[1] == 'X' {
			want = api.ErrUnsupported
		}
		fails(t, s, want)
	}
}

// P11.1: numbers in braces, at each edge, in all ways in which they may be written.
func TestBraces(t *testing.T) {
	for _, c := range []int{0, 1, 9, 10, 15, 16, 65, 127, 128, 255, 256, 0x7ff, 0x800, 0xabc, 0xd7ff, 0xd800, 0xdbff, 0xdc00, 0xdfff, 0xe000, 0xfffd, 0xffff, 0x10000, 0x1f600, 0xfffff, 0x100000, top - 1, top} {
		s := strconv.FormatInt(int64(c), 16)
		for ; len(s) <= 6; s = "0" + s {
			goes(t, `\u{`+s+`}`, of(c, c))
			goes(t, `\u{`+strings.ToUpper(s)+`}`, of(c, c))
		}
		for range 3 {
			fails(t, `\u{`+s+`}`, api.ErrForm)
			s = "0" + s
		}
	}
	for _, c := range []int{top + 1, top + 2, 0x11ffff, 0x120000, 0x1fffff, 0x200000, 0x800000, 0xfffffe, 0xffffff} {
		s := strconv.FormatInt(int64(c), 16)
		fails(t, `\u{`+s+`}`, api.ErrRange)
		fails(t, `\u{`+strings.ToUpper(s)+`}z`, api.ErrRange)
		fails(t, `\u{0`+s+`}`, api.ErrForm)
		fails(t, `\u{`+s, api.ErrForm)
		fails(t, `\u{`+s+`z}`, api.ErrForm)
		fails(t, `\u`+s, api.ErrForm)
	}
}

// P11.1: braces that aren't as they ought to be.
func TestBracesWrong(t *testing.T) {
	for _, s := range []string{
		`\u`, `\u{`, `\u}`, `\u{}`, `\u41`, `\u0041`, `\u{41`, `\u41}`, `\u {41}`, `\u{ 41}`, `\u{41 }`, `\u{4 1}`, `\u{+41}`, `\u{-1}`, `\u{-41}`, `\u{0x41}`, `\u{4_1}`, `\u{g}`, `\u{4g}`, `\u{G}`, `\u{41g}`,
		`\u{{41}}`, `\u{{41}`, `\u{\x41}`, `\u{41,42}`, `\u{1234567}`, `\u{0000041}`, `\u{00000000}`, `\u{fffffff}`, `\u{100000000}`, `\u{10000000000000041}`, `\u(41)`, `\u[41]`, `\u{１}`, "\\u{\xff}", "\\u{4\xff}", "\\u{41\n}",
		"\\u\xff", `\uz{41}`, `\uu{41}`, `\u{` + strings.Repeat("0", 5000) + `}`, `\u{` + strings.Repeat("0", 5000), `\U{41}`, `\U00000041`,
	} {
		fails(t, s, api.ErrForm)
	}
}

// P11.1: letters for short.
func TestShort(t *testing.T) {
	for _, c := range []byte("dwshDWSH") {
		want, ok := named.Short(c)
		if !ok {
			t.Fatalf("named.Short(%q)", c)
		}
		goes(t, "\\"+string(rune(c)), want)
	}
	goes(t, `\d`, of('0', '9'))
	goes(t, `\D`, of(0, '0'-1, '9'+1, top))
	goes(t, `\h`, of('0', '9', 'A', 'F', 'a', 'f'))
	goes(t, `\s`, of(9, 13, 32, 32, 133, 133, 160, 160, 8192, 8202, 8232, 8233, 8239, 8239, 8287, 8287, 12288, 12288))
	goes(t, `\w`, of(48, 57, 65, 90, 95, 95, 97, 122, 192, 214, 216, 246, 248, 255, 913, 929, 931, 939, 945, 971, 1024, 1119))
}

// P11.1: names, and what is not in their sets.
func TestNames(t *testing.T) {
	for _, name := range named.Names() {
		want, _ := named.Of(name)
		goes(t, `\p{`+name+`}`, want)
		goes(t, `\P{`+name+`}`, ranges.Not(want))
	}
	goes(t, `\p{Digit}`, of('0', '9'))
	goes(t, `\P{Digit}`, of(0, '0'-1, '9'+1, top))
	goes(t, `\p{Any}`, of(0, top))
	goes(t, `\P{Any}`, nil)
	goes(t, `\P{Ascii}`, of(128, top))
	goes(t, `\P{Greek}`, of(0, 879, 1024, top))
}

// P11.1: names that nobody has, and those that don't stand as they ought to.
func TestNamesWrong(t *testing.T) {
	for _, p := range []string{`\p`, `\P`} {
		for _, s := range []string{
			`{}`, `{Nobody}`, `{any}`, `{DIGIT}`, `{Digits}`, `{ Digit}`, `{Digit }`, `{^Digit}`, `{{Digit}}`, `{{Digit}`, `{Digit{}`, `{\d}`, `{d}`, `{D}`, `{1}`, `{Digit,Hex}`, `{Digit|Hex}`, `{Digit\}`, "{\xff}", "{Digit\xff}", "{\n}", "{Digit\n}", `{é}`, `{ }`, `{-}`, `{"}`,
			`{}Digit}`, `{Nobody}{Digit}`, `{` + strings.Repeat("Digit", 1000) + `}`,
		} {
			fails(t, p+s, api.ErrName)
			fails(t, p+s+"z}", api.ErrName)
		}
		for _, s := range []string{
			``, `{`, `}`, `D`, `Digit`, `{Digit`, `{Nobody`, `Digit}`, ` {Digit}`, `(Digit)`, `[Digit]`, `^{Digit}`, `{Digit]`, "\xff", "\xff{Digit}", "{\xff", `p{Digit}`, `=Digit}`, `1{Digit}`, `\{Digit}`, `{` + strings.Repeat("Digit", 1000),
		} {
			fails(t, p+s, api.ErrForm)
		}
	}
}

// P11.1: the text ends; and wherever no backslash is.
func TestEnds(t *testing.T) {
	for _, ahead := range aheads {
		s := ahead + "\\"
		if l, n, e := Parse(s, len(s)-1); e != api.ErrForm || n != 0 || len(l) != 0 {
			t.Errorf("Parse(%q): %v, %d, %v", s, l, n, e)
		}
	}
	for _, s := range []string{"", "a", "n", "zz\\n", "/n", "|n", "é\\n\xff", "\x5b\x5d", "\\n", "\\", "\\\\"} {
		for at := -3; at <= len(s)+3; at++ {
			if at >= 0 && at < len(s) && s[at] == '\\' {
				continue
			}
			if l, n, e := Parse(s, at); e != api.ErrArg || n != 0 || len(l) != 0 {
				t.Errorf("Parse(%q, %d): %v, %d, %v", s, at, l, n, e)
			}
		}
		for _, at := range []int{math.MinInt, math.MinInt + 1, math.MinInt32, -1 << 32, 1 << 32, math.MaxInt32, math.MaxInt - 1, math.MaxInt} {
			if l, n, e := Parse(s, at); e != api.ErrArg || n != 0 || len(l) != 0 {
				t.Errorf("Parse(%q, %d): %v, %d, %v", s, at, l, n, e)
			}
		}
	}
}

// patterns tell what a text with a backslash begins with; the first one that finds something counts.
var patterns = []struct {
	is   *regexp.Regexp
	kind string
}{
	{regexp.MustCompile(`^\\[0aetnvfr]`), "letter"},
	{regexp.MustCompile(`^\\x[0-9a-fA-F]{2}`), "x"},
	{regexp.MustCompile(`^\\u\{[0-9a-fA-F]{1,6}\}`), "u"},
	{regexp.MustCompile(`^\\[dwshDWSH]`), "short"},
	{regexp.MustCompile(`(?s)^\\[pP]\{[^}]*\}`), "name"},
	{regexp.MustCompile(`^\\[1-9bBAzZGkKQERX]`), "unsupported"},
	{regexp.MustCompile(`(?s)^\\[^a-zA-Z0-9]`), "itself"},
}

// reckon tells what Parse ought to tell of a text from its backslash on, by patterns.
func reckon(s string) ([]api.Range, int, api.Errno) {
	for _, p := range patterns {
		m := p.is.FindString(s)
		if m == "" {
			continue
		}
		c := -1
		switch p.kind {
		case "letter":
			c = int(map[string]byte{"0": 0, "a": '\a', "e": 0x1b, "t": '\t', "n": '\n', "v": '\v', "f": '\f', "r": '\r'}[m[1:]])
		case "x", "u":
			n, _ := strconv.ParseInt(strings.Trim(m[2:], "{}"), 16, 64)
			c = int(n)
		case "itself":
			r, size := utf8.DecodeRuneInString(m[1:])
			if r == utf8.RuneError && size == 1 {
				return nil, 0, api.ErrForm
			}
			c = int(r)
		case "short":
			l, _ := named.Short(m[1])
			return l, len(m), api.OK
		case "name":
			l, ok := named.Of(m[3 : len(m)-1])
			if !ok {
				return nil, 0, api.ErrName
			}
			if m[1] == 'P' {
				l = ranges.Not(l)
			}
			return l, len(m), api.OK
		case "unsupported":
			return nil, 0, api.ErrUnsupported
		}
		if c > top {
			return nil, 0, api.ErrRange
		}
		return of(c, c), len(m), api.OK
	}
	return nil, 0, api.ErrForm
}

// holds fails where Parse of a text behind a backslash isn't as it is reckoned.
func holds(t *testing.T, s string) {
	t.Helper()
	s = "\\" + s
	want, to, fault := reckon(s)
	if l, n, e := Parse(s, 0); e != fault || n != to || !slices.Equal(l, want) {
		t.Fatalf("Parse(%q): %v, %d, %v, not %v, %d, %v", s, l, n, e, want, to, fault)
	}
}

// P11.1: all texts of some bytes, against what is reckoned by patterns.
func TestAllTexts(t *testing.T) {
	for _, w := range []struct {
		bytes string
		long  int
	}{
		{"u{}1f0g\xff", 6}, {"x09afAFgG{", 5}, {"pPu{}\\D7", 6}, {"\xc3\xa9\xed\xa0\x80n\\", 5}, {"01abBcdDeEXZ{é", 4},
	} {
		var texts func(s string)
		texts = func(s string) {
			holds(t, s)
			if len(s) == w.long {
				return
			}
			for _, c := range []byte(w.bytes) {
				texts(s + string([]byte{c}))
			}
		}
		texts("")
	}
	for i := range 1 << 16 {
		holds(t, string([]byte{byte(i >> 8), byte(i)}))
	}
}

// P11.1: numbers in braces of each number of digits, against what is reckoned by patterns.
func TestAllDigits(t *testing.T) {
	for _, first := range []string{"", "0", "1", "10", "11", "f", "F"} {
		for n := range 9 {
			for _, digit := range []string{"0", "f", "A", "9", "g", "G", "/", ":", "@", "`"} {
				s := first + strings.Repeat("0", n)
				for i := range len(s) + 1 {
					holds(t, "u{"+s[:i]+digit+s[i:]+"}")
					holds(t, "u{"+s[:i]+digit+s[i:])
					holds(t, "u{"+s[:i]+"}"+digit+s[i:])
				}
			}
		}
	}
}

// P11.1: names of which a byte is another one, or lacks, or is too many, against what is reckoned by patterns.
func TestNearNames(t *testing.T) {
	for _, name := range named.Names() {
		for _, p := range []string{"p", "P"} {
			whole := p + "{" + name + "}z}"
			for i := range len(whole) {
				holds(t, whole[:i])
				holds(t, whole[:i]+whole[i+1:])
				for _, c := range []byte("{}\\^ aDp\x00\n\xff") {
					holds(t, whole[:i]+string([]byte{c})+whole[i:])
					holds(t, whole[:i]+string([]byte{c})+whole[i+1:])
				}
			}
		}
	}
}

// P11.2: sets of just one, at each edge.
func TestOne(t *testing.T) {
	for _, c := range []int{0, 1, 9, 65, 127, 128, 255, 256, 0xd800, 0xdfff, 0xffff, 0x10000, top - 1, top} {
		if n, ok := One(of(c, c)); !ok || n != c {
			t.Errorf("One of %d: %d, %v", c, n, ok)
		}
	}
}

// P11.2: sets of none and of more than one, and lists that are no set.
func TestOneNot(t *testing.T) {
	for _, l := range [][]api.Range{
		nil, {}, of(0, 1), of(0, top), of(65, 66), of(top-1, top), of(5, 5, 7, 7), of(0, 0, top, top), of(5, 5, 7, 9), of(5, 6, 8, 8), of(1, 1, 3, 3, 5, 5),
		of(1, 0), of(66, 65), of(top, 0), of(-1, -1), of(-1, 0), of(-5, -5), of(top+1, top+1), of(top, top+1), of(1<<32+5, 1<<32+5), of(5, 1<<32+5),
		of(math.MinInt, math.MinInt), of(math.MaxInt, math.MaxInt), of(math.MinInt, math.MaxInt), of(math.MaxInt, math.MinInt), of(math.MinInt, 0), of(top, math.MaxInt),
		of(5, 5, 5, 5), of(5, 5, 6, 6), of(7, 7, 5, 5), of(5, 5, 2, 1), of(2, 1, 5, 5), of(5, 5, -1, -1), of(-1, -1, 5, 5), of(5, 5, top+1, top+1),
	} {
		if n, ok := One(l); ok || n != 0 {
			t.Errorf("One(%v): %d, %v", l, n, ok)
		}
	}
}

// P11.2: whether an escape is of one number is told of its set.
func TestOneOfEscapes(t *testing.T) {
	for s, want := range map[string]int{`\0`: 0, `\n`: 10, `\x41`: 65, `\u{10ffff}`: top, `\u{d800}`: 0xd800, `\.`: 46, `\é`: 233, `\{`: 123, `\-`: 45} {
		l, _, _ := Parse(s, 0)
		if c, ok := One(l); !ok || c != want {
			t.Errorf("One of %s: %d, %v", s, c, ok)
		}
	}
	several := []string{`\d`, `\w`, `\s`, `\h`, `\D`, `\W`, `\S`, `\H`}
	for _, name := range named.Names() {
		several = append(several, `\p{`+name+`}`, `\P{`+name+`}`)
	}
	for _, s := range several {
		l, _, e := Parse(s, 0)
		if c, ok := One(l); ok || c != 0 || e != api.OK {
			t.Errorf("One of %s: %d, %v, %v", s, c, ok, e)
		}
	}
}

// plain has the letters and digits.
const plain = "abcdefghijklmnopqrstuvwxyzABCDEFGHIJKLMNOPQRSTUVWXYZ0123456789"

// P11.2: all bytes.
func TestPlain(t *testing.T) {
	for c := range 256 {
		if is := strings.IndexByte(plain, byte(c)) >= 0; Plain(byte(c)) != is {
			t.Errorf("Plain(%d): %v", c, !is)
		}
	}
}

// P11.2: by hand, and of numbers that have none.
func TestText(t *testing.T) {
	for c, want := range map[int]string{
		0: `\u{0}`, 1: `\u{1}`, 9: `\u{9}`, 10: `\u{a}`, 15: `\u{f}`, 16: `\u{10}`, 65: `\u{41}`, 255: `\u{ff}`, 256: `\u{100}`, 0xabc: `\u{abc}`, 0xd800: `\u{d800}`, 0xdfff: `\u{dfff}`, 0xffff: `\u{ffff}`, 0x10000: `\u{10000}`,
		0x1f600: `\u{1f600}`, 0xfffff: `\u{fffff}`, 0x100000: `\u{100000}`, top: `\u{10ffff}`,
	} {
		if s := Text(c); s != want {
			t.Errorf("Text(%d): %q", c, s)
		}
	}
	for _, c := range []int{-1, -2, -65, top + 1, top + 2, 0x1fffff, 1 << 21, 0xffffff, 1 << 24, 1 << 32, 1<<32 + 65, -1<<32 + 65, math.MaxInt32, math.MinInt32, math.MaxInt - 1, math.MaxInt, math.MinInt, math.MinInt + 65} {
		if s := Text(c); s != "" {
			t.Errorf("Text(%d): %q", c, s)
		}
	}
}

// P11.2, P11.3: all numbers are told, and read as they are told, whatever follows.
func TestTextAll(t *testing.T) {
	for c := range top + 1 {
		s := Text(c)
		if s != `\u{`+strconv.FormatInt(int64(c), 16)+`}` {
			t.Fatalf("Text(%d): %q", c, s)
		}
		behind := behinds[c%len(behinds)]
		l, n, e := Parse(s+behind, 0)
		if one, ok := One(l); e != api.OK || n != len(s) || !ok || one != c {
			t.Fatalf("Parse(%q): %v, %d, %v", s+behind, l, n, e)
		}
	}
	for _, c := range []int{0, 10, 125, 0xd800, 0xffff, top} {
		goes(t, Text(c), of(c, c))
	}
}

// P11.1: what is told is a set, whichever escape it is of.
func TestRight(t *testing.T) {
	escapes := []string{`\0`, `\n`, `\xff`, `\u{10ffff}`, `\.`, `\é`, `\d`, `\W`, `\S`, `\h`}
	for _, name := range named.Names() {
		escapes = append(escapes, `\p{`+name+`}`, `\P{`+name+`}`)
	}
	for _, s := range escapes {
		if l, n, e := Parse(s, 0); e != api.OK || n != len(s) || !ranges.Right(l) {
			t.Errorf("Parse(%q): %v, %d, %v", s, l, n, e)
		}
	}
}

// P11.1, P11.2: what is handed out is new memory, which nobody else sees; what is handed in is left as it is.
func TestMemory(t *testing.T) {
	bad := api.Range{Lo: -7, Hi: -9}
	for _, s := range []string{`\n`, `\x41`, `\u{41}`, `\.`, `\d`, `\D`, `\p{Word}`, `\P{Word}`, `\p{Any}`} {
		kept, _, _ := Parse(s, 0)
		was := slices.Clone(kept)
		l, _, _ := Parse(s, 0)
		all := l[:cap(l)]
		for i := range all {
			all[i] = bad
		}
		if again, _, _ := Parse(s, 0); !slices.Equal(kept, was) || !slices.Equal(again, was) {
			t.Errorf("what was told of %s: %v, then %v", s, kept, again)
		}
	}
	row := []api.Range{bad, {Lo: 5, Hi: 5}, bad, bad}
	if c, ok := One(row[1:2]); !ok || c != 5 || !slices.Equal(row, []api.Range{bad, {Lo: 5, Hi: 5}, bad, bad}) {
		t.Errorf("One: %d, %v, and the row is %v", c, ok, row)
	}
}

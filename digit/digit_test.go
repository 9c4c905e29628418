package digit

import (
	"math"
	"strconv"
	"strings"
	"testing"
)

// P1.1: what Parse takes.
func TestParseDecimals(t *testing.T) {
	for s, want := range map[string]int{
		"0": 0, "1": 1, "7": 7, "9": 9, "10": 10, "42": 42, "100": 100,
		"123456789": 123456789, "100000000": 100000000, "999999998": 999999998, "999999999": 999999999,
	} {
		if n, ok := Parse(s); !ok || n != want {
			t.Errorf("Parse(%q): %d, %v", s, n, ok)
		}
	}
}

// P1.1: what Parse does not take, with the number 0.
func TestParseNoDecimals(t *testing.T) {
	long := strings.Repeat("9", 5000)
	for _, s := range []string{
		"", "00", "01", "007", "0000000000", "1000000000", "1000000001", "9999999999", "18446744073709551616",
		"4294967296", "-1", "-0", "+1", " 1", "1 ", "1\n", "1a", "a", "a1", "0x1", "1.0", "1_0", "/", ":", "1:",
		"\x00", "1\x00", "\xff", "1\xff", "١", "１", long, "0" + long, long + "x",
	} {
		if n, ok := Parse(s); ok || n != 0 {
			t.Errorf("Parse(%q): %d, %v", s, n, ok)
		}
	}
}

// P1.1: each single byte, alone and behind a digit.
func TestParseBytes(t *testing.T) {
	for c := range 256 {
		is := c >= '0' && c <= '9'
		alone := string([]byte{byte(c)})
		if n, ok := Parse(alone); ok != is || is && n != c-'0' || !is && n != 0 {
			t.Errorf("Parse(%q): %d, %v", alone, n, ok)
		}
		if n, ok := Parse("4" + alone); ok != is || is && n != 40+c-'0' || !is && n != 0 {
			t.Errorf("Parse(%q): %d, %v", "4"+alone, n, ok)
		}
	}
}

// P1.1: Text of numbers from the whole range.
func TestText(t *testing.T) {
	for n, want := range map[int]string{
		0: "0", 1: "1", 9: "9", 10: "10", 100: "100", 999999999: "999999999", 1000000000: "1000000000",
		-1: "-1", -10: "-10", -907: "-907",
		math.MaxInt32: "2147483647", math.MinInt32: "-2147483648",
		math.MaxInt: "9223372036854775807", math.MinInt: "-9223372036854775808",
	} {
		if s := Text(n); s != want {
			t.Errorf("Text(%d): %q", n, s)
		}
	}
}

// P1.2: what Hex takes.
func TestHexDigits(t *testing.T) {
	for s, want := range map[string]int{
		"0": 0, "00": 0, "000000": 0, "9": 9, "a": 10, "f": 15, "A": 10, "F": 15, "10": 16, "0a": 10, "0A": 10,
		"41": 65, "fF": 255, "aBcDeF": 0xabcdef, "123456": 0x123456, "10FFff": 0x10ffff, "110000": 0x110000,
		"ffffff": 0xffffff, "FFFFFF": 0xffffff, "000001": 1,
	} {
		if n, ok := Hex(s); !ok || n != want {
			t.Errorf("Hex(%q): %d, %v", s, n, ok)
		}
	}
}

// P1.2: what Hex does not take, with the number 0.
func TestHexNoDigits(t *testing.T) {
	for _, s := range []string{
		"", "g", "G", "1g", "g1", "0x1", "-1", "+1", " 1", "1 ", "1\n", "1_0", "/", ":", "@", "`", "\x00", "\xff",
		"1234567", "0000000", "0000001", "fffffff", "1２", "12345\xff", strings.Repeat("a", 5000),
	} {
		if n, ok := Hex(s); ok || n != 0 {
			t.Errorf("Hex(%q): %d, %v", s, n, ok)
		}
	}
}

// P1.2: each single byte, alone and behind a digit.
func TestHexBytes(t *testing.T) {
	for c := range 256 {
		want, is := strings.Index("0123456789abcdef", strings.ToLower(string(rune(c)))), false
		switch {
		case c >= '0' && c <= '9', c >= 'a' && c <= 'f', c >= 'A' && c <= 'F':
			is = true
		default:
			want = 0
		}
		alone := string([]byte{byte(c)})
		if n, ok := Hex(alone); ok != is || n != want {
			t.Errorf("Hex(%q): %d, %v", alone, n, ok)
		}
		if n, ok := Hex("b" + alone); ok != is || is && n != 11*16+want || !is && n != 0 {
			t.Errorf("Hex(%q): %d, %v", "b"+alone, n, ok)
		}
	}
}

// P1.2: HexText, and how many digits it fills.
func TestHexText(t *testing.T) {
	for _, c := range []struct {
		n, least int
		want     string
	}{
		{0, 0, "0"}, {0, 1, "0"}, {0, 2, "00"}, {0, -1, "0"}, {0, math.MinInt, "0"},
		{0, 8, "00000000"}, {0, 9, "00000000"}, {0, math.MaxInt, "00000000"},
		{10, 2, "0a"}, {10, 1, "a"}, {10, 0, "a"}, {10, -5, "a"}, {15, 3, "00f"}, {16, 1, "10"}, {16, 2, "10"}, {16, 3, "010"},
		{255, 4, "00ff"}, {0xabcdef, 6, "abcdef"}, {0xabcdef, 7, "0abcdef"}, {0x10ffff, 0, "10ffff"},
		{0x12345678, 8, "12345678"}, {0x1234567, 8, "01234567"}, {0x7fffffff, 0, "7fffffff"}, {0x100, 99, "00000100"},
		{0x123456789a, 0, "123456789a"}, {0x123456789a, 99, "123456789a"}, {math.MaxInt, 0, "7fffffffffffffff"}, {math.MaxInt, math.MaxInt, "7fffffffffffffff"},
		{-1, 0, "0"}, {-1, 2, "00"}, {-3, 99, "00000000"}, {-16, 1, "0"}, {math.MinInt, 4, "0000"}, {math.MinInt, math.MinInt, "0"},
	} {
		if s := HexText(c.n, c.least); s != c.want {
			t.Errorf("HexText(%d, %d): %q", c.n, c.least, s)
		}
	}
}

// P1.2: HexText against the library's digits, at each power of 16 and beside it.
func TestHexTextPowers(t *testing.T) {
	for power := range 16 {
		for _, n := range []int{1<<(4*power) - 1, 1 << (4 * power), 1<<(4*power) + 1} {
			for least := -2; least <= 12; least++ {
				want := strconv.FormatInt(int64(n), 16)
				for len(want) < least && len(want) < 8 {
					want = "0" + want
				}
				if s := HexText(n, least); s != want {
					t.Errorf("HexText(%d, %d): %q", n, least, s)
				}
			}
		}
	}
}

// P1.3: the number, at most 1000000000, and all its bytes.
func TestLead(t *testing.T) {
	long := strings.Repeat("1", 5000)
	for _, c := range []struct {
		s    string
		n, k int
	}{
		{"", 0, 0}, {"x", 0, 0}, {"-1", 0, 0}, {" 1", 0, 0}, {"/", 0, 0}, {":", 0, 0}, {"\xff", 0, 0}, {"a12", 0, 0},
		{"0", 0, 1}, {"0x", 0, 1}, {"00", 0, 2}, {"007", 7, 3}, {"12ab", 12, 2}, {"12", 12, 2}, {"1/2", 1, 1}, {"1:2", 1, 1}, {"12 34", 12, 2},
		{"5\x006", 5, 1}, {"5\xff", 5, 1}, {"5１", 5, 1},
		{"99999999", 99999999, 8}, {"100000000", 100000000, 9}, {"999999999", 999999999, 9}, {"999999999,", 999999999, 9},
		{"1000000000", 1000000000, 10}, {"1000000001", 1000000000, 10}, {"9999999999x", 1000000000, 10}, {"12345678901x", 1000000000, 11},
		{"10000000000", 1000000000, 11}, {"18446744073709551616", 1000000000, 20}, {"18446744073709551617z", 1000000000, 20},
		{"0000000000000", 0, 13}, {"0000000000012;", 12, 13}, {"0000999999999", 999999999, 13}, {"00001000000000", 1000000000, 14},
		{long, 1000000000, 5000}, {long + "q1", 1000000000, 5000},
	} {
		if n, k := Lead(c.s); n != c.n || k != c.k {
			t.Errorf("Lead(%q): %d, %d", c.s, n, k)
		}
	}
}

// tried are numbers from 0 to most: the first ones, those beside powers of 10 and of 2, some between, the last ones.
func tried(most int) []int {
	var l []int
	for n := range 5000 {
		l = append(l, n, most-n)
	}
	for p := 1; p <= most; p *= 10 {
		l = append(l, p-1, p, min(p+1, most))
	}
	for p := 1; p <= most; p *= 2 {
		l = append(l, p-1, p, min(p+1, most))
	}
	for n := 0; n <= most; n += most/9973 + 1 {
		l = append(l, n)
	}
	return l
}

// P1.4: what Text tells is a decimal, of that number; and Lead tells all of it.
func TestTextIsADecimal(t *testing.T) {
	for _, n := range tried(999999999) {
		s := Text(n)
		if m, ok := Parse(s); !ok || m != n {
			t.Errorf("Parse(Text(%d)): %d, %v", n, m, ok)
		}
		if m, k := Lead(s + "a"); m != n || k != len(s) {
			t.Errorf("Lead of Text(%d): %d, %d", n, m, k)
		}
	}
	for _, n := range []int{-1, -999999999, 1000000000, math.MaxInt, math.MinInt} {
		if m, ok := Parse(Text(n)); ok || m != 0 {
			t.Errorf("Parse(Text(%d)): %d, %v", n, m, ok)
		}
	}
}

// P1.4: what HexText tells is that number's, by Hex, in small and in capital letters.
func TestHexTextIsHex(t *testing.T) {
	for _, n := range tried(16777215) {
		for least := range 7 {
			s := HexText(n, least)
			if m, ok := Hex(s); !ok || m != n {
				t.Errorf("Hex(%q): %d, %v", s, m, ok)
			}
			if m, ok := Hex(strings.ToUpper(s)); !ok || m != n {
				t.Errorf("Hex(%q): %d, %v", strings.ToUpper(s), m, ok)
			}
		}
	}
	if _, ok := Hex(HexText(16777216, 0)); ok {
		t.Errorf("Hex of seven digits")
	}
}

package byteseq

import (
	"cmp"
	"math"
	"slices"
	"strings"
	"testing"

	"spool/api"
	"spool/ranges"
)

const top = api.MaxRune

// of are ranges, of two numbers each.
func of(n ...int) []api.Range {
	var l []api.Range
	for i := 0; i+1 < len(n); i += 2 {
		l = append(l, api.Range{Lo: n[i], Hi: n[i+1]})
	}
	return l
}

// in tells whether a number is in one of any ranges.
func in(l []api.Range, c int) bool {
	return slices.ContainsFunc(l, func(r api.Range) bool { return r.Lo <= c && c <= r.Hi })
}

// scalar tells whether a number is a code point.
func scalar(c int) bool { return c >= 0 && c <= top && (c < 0xd800 || c > 0xdfff) }

// bytesOf has a code point's bytes, bit by bit, as the document says them.
func bytesOf(c int) string {
	last := func(up int) byte { return byte(128 + c>>up&63) }
	switch {
	case c < 128:
		return string([]byte{byte(c)})
	case c < 2048:
		return string([]byte{byte(192 + c>>6), last(0)})
	case c < 65536:
		return string([]byte{byte(224 + c>>12), last(6), last(0)})
	}
	return string([]byte{byte(240 + c>>18), last(12), last(6), last(0)})
}

// least has the least text that matches a row.
func least(row []api.Range) string {
	var b []byte
	for _, r := range row {
		b = append(b, byte(r.Lo))
	}
	return string(b)
}

// howMany tells how many rows a text matches.
func howMany(rows [][]api.Range, s string) int {
	n := 0
	for _, row := range rows {
		if len(row) != len(s) || len(row) == 0 {
			continue
		}
		is := 1
		for i, r := range row {
			if int(s[i]) < r.Lo || int(s[i]) > r.Hi {
				is = 0
			}
		}
		n += is
	}
	return n
}

// size tells how many texts match rows, each of which is right.
func size(rows [][]api.Range) int {
	sum := 0
	for _, row := range rows {
		n := 1
		for _, r := range row {
			n *= r.Hi - r.Lo + 1
		}
		sum += n
	}
	return sum
}

// sizeOf tells how many code points are in the set of any ranges.
func sizeOf(l []api.Range) int {
	set := ranges.Of(l...)
	n := ranges.Count(set)
	for _, r := range set {
		n -= max(0, min(r.Hi, 0xdfff)-max(r.Lo, 0xd800)+1)
	}
	return n
}

// one tells whether two rows, the one behind the other, could as well be one: they are unlike in one byte alone, behind which all others may stand.
func one(a, b []api.Range) bool {
	for i := range min(len(a), len(b)) {
		if a[i] == b[i] {
			continue
		}
		full := slices.Repeat(of(128, 191), len(a)-i-1)
		return a[i].Hi+1 == b[i].Lo && slices.Equal(a[i+1:], full) && slices.Equal(b[i+1:], full)
	}
	return false
}

// right tells the rows of any ranges, and fails where they are no rows, or not in order, or too many, or match not as many texts as there are code points.
func right(t *testing.T, l []api.Range) [][]api.Range {
	t.Helper()
	rows := Of(l)
	for _, row := range rows {
		if len(row) < 1 || len(row) > 4 || slices.ContainsFunc(row, func(r api.Range) bool { return r.Lo < 0 || r.Hi < r.Lo || r.Hi > 255 }) {
			t.Fatalf("Of(%v): %v is no row", l, row)
		}
	}
	for i := 1; i < len(rows); i++ {
		a, b := rows[i-1], rows[i]
		if cmp.Or(len(a)-len(b), strings.Compare(least(a), least(b))) >= 0 {
			t.Fatalf("Of(%v): %v ahead of %v", l, a, b)
		}
		if len(a) == len(b) && one(a, b) {
			t.Fatalf("Of(%v): one row would tell %v and %v", l, a, b)
		}
	}
	if len(rows) > 40*len(l)+80 {
		t.Fatalf("Of(%v): %d rows", l, len(rows))
	}
	if n := size(rows); n != sizeOf(l) || Count(rows) != n {
		t.Fatalf("Of(%v): %v match %d texts, and Count tells %d", l, rows, n, Count(rows))
	}
	return rows
}

// meets fails where rows don't match the bytes of the code points from one number to another one as the ranges have them.
func meets(t *testing.T, l []api.Range, rows [][]api.Range, from, to int) {
	t.Helper()
	for c := max(from, 0); c <= min(to, top); c++ {
		if !scalar(c) {
			continue
		}
		s, want := bytesOf(c), 0
		if in(l, c) {
			want = 1
		}
		if n := howMany(rows, s); n != want || Any(rows, s) != (want == 1) {
			t.Fatalf("Of(%v): %v: %d of them match %d", l, rows, n, c)
		}
	}
}

// odd are lists with numbers from the whole range, and lists that are wrong.
func odd() [][]api.Range {
	return [][]api.Range{
		nil, {}, of(0, 0), of(top, top), of(0, top), of(-1, -1), of(top+1, top+1), of(-5, top+5), of(1, 0), of(top, 0), of(top+1, top), of(0, -1), of(0xd800, 0xdfff), of(0xd7ff, 0xe000),
		of(math.MinInt, math.MaxInt), of(math.MaxInt, math.MinInt), of(math.MinInt, math.MinInt), of(math.MaxInt, math.MaxInt), of(1<<32+'a', 1<<32+'z'), of(-1<<32, -1<<32+9),
		of(math.MinInt, -1), of(math.MinInt, 0), of(math.MinInt, 0x7ff), of(top+1, math.MaxInt), of(top, math.MaxInt), of(0x800, math.MaxInt),
		of(math.MinInt, 0xd7ff, 0xe000, math.MaxInt), of(math.MinInt, 127, 129, math.MaxInt), of(math.MaxInt, 3, 8, math.MinInt),
		of('c', 'c', 'a', 'a', 'b', 'b'), of(0, 9, 0, 9, 0, 9), of(0x900, 0xa00, 'x', 'y', 0x10000, 0x10400, 0x80, 0x85, 5, 3), of(200, 100, 300, 4000, 250, 350, 0xffff, 0x10000),
		of('0', '9', 'A', 'Z', 'a', 'z', 0x3b1, 0x3c9, 0x4e00, 0x9fff, 0x1f600, 0x1f64f), of(0x81, top-1), of(1, top-1), of(0x801, 0xfffe), of(0x10001, 0x10fffe),
	}
}

// next tells numbers below one, the same ones each time.
func next(state *uint64, n int) int {
	*state = *state*6364136223846793005 + 1442695040888963407
	return int(*state >> 33 % uint64(n))
}

// scattered are lists of ranges of all widths, the same ones each time.
func scattered(lists, most int) [][]api.Range {
	state := uint64(8)
	var l [][]api.Range
	for range lists {
		var one []api.Range
		for range next(&state, most) {
			lo := next(&state, 1<<next(&state, 22)) - 9
			one = append(one, api.Range{Lo: lo, Hi: lo + next(&state, 1<<next(&state, 20)) - 3})
		}
		l = append(l, one)
	}
	return l
}

// P8.1: by hand.
func TestOf(t *testing.T) {
	for _, c := range []struct {
		l    []api.Range
		want [][]api.Range
	}{
		{of(128, 2047), [][]api.Range{of(194, 223, 128, 191)}},
		{nil, nil}, {of(5, 3), nil}, {of(-9, -1, top+1, top+9), nil}, {of(0xd800, 0xdfff), nil}, {of(0xd900, 0xd900), nil},
		{of('a', 'c'), [][]api.Range{of(97, 99)}}, {of('b', 'b'), [][]api.Range{of(98, 98)}}, {of(0, 127), [][]api.Range{of(0, 127)}}, {of(5, 100), [][]api.Range{of(5, 100)}}, {of(-4, 0), [][]api.Range{of(0, 0)}},
		{of('c', 'd', 'a', 'a'), [][]api.Range{of(97, 97), of(99, 100)}}, {of('c', 'd', 'a', 'b', 'd', 'd'), [][]api.Range{of(97, 100)}},
		{of(127, 128), [][]api.Range{of(127, 127), of(194, 194, 128, 128)}}, {of(233, 233), [][]api.Range{of(195, 195, 169, 169)}},
		{of(0x800, 0xfff), [][]api.Range{of(224, 224, 160, 191, 128, 191)}}, {of(0x20ac, 0x20ac), [][]api.Range{of(226, 226, 130, 130, 172, 172)}},
		{of(0xd7ff, 0xe000), [][]api.Range{of(237, 237, 159, 159, 191, 191), of(238, 238, 128, 128, 128, 128)}},
		{of(0xffff, 0x10000), [][]api.Range{of(239, 239, 191, 191, 191, 191), of(240, 240, 144, 144, 128, 128, 128, 128)}},
		{of(top, top+1), [][]api.Range{of(244, 244, 143, 143, 191, 191, 191, 191)}}, {of(0x40000, 0xfffff), [][]api.Range{of(241, 243, 128, 191, 128, 191, 128, 191)}},
		{of(0x85, 0x142), [][]api.Range{of(194, 194, 133, 191), of(195, 196, 128, 191), of(197, 197, 128, 130)}},
		{of(0x1f600, 'a', 'a', 'a', 0x1f600, 0x1f64f, 0xe9, 0xe9), [][]api.Range{of(97, 97), of(195, 195, 169, 169), of(240, 240, 159, 159, 152, 152, 128, 191), of(240, 240, 159, 159, 153, 153, 128, 143)}},
		{of(0x10001, 0x10fffe), [][]api.Range{
			of(240, 240, 144, 144, 128, 128, 129, 191), of(240, 240, 144, 144, 129, 191, 128, 191), of(240, 240, 145, 191, 128, 191, 128, 191), of(241, 243, 128, 191, 128, 191, 128, 191),
			of(244, 244, 128, 142, 128, 191, 128, 191), of(244, 244, 143, 143, 128, 190, 128, 191), of(244, 244, 143, 143, 191, 191, 128, 190),
		}},
	} {
		if got := Of(c.l); !slices.EqualFunc(got, c.want, slices.Equal) {
			t.Errorf("Of(%v): %v, not %v", c.l, got, c.want)
		}
	}
}

// P8.1: all code points, however they are told.
func TestOfAll(t *testing.T) {
	want := [][]api.Range{
		of(0, 127), of(194, 223, 128, 191), of(224, 224, 160, 191, 128, 191), of(225, 236, 128, 191, 128, 191), of(237, 237, 128, 159, 128, 191), of(238, 239, 128, 191, 128, 191),
		of(240, 240, 144, 191, 128, 191, 128, 191), of(241, 243, 128, 191, 128, 191, 128, 191), of(244, 244, 128, 143, 128, 191, 128, 191),
	}
	for _, l := range [][]api.Range{of(0, top), of(math.MinInt, math.MaxInt), of(0xe000, top, 0, 0xd7ff), of(0, top, 5, 9, 7, 3, 0xd800, 0xdfff), of(600, top+1, -1, 700)} {
		if got := Of(l); !slices.EqualFunc(got, want, slices.Equal) {
			t.Errorf("Of(%v): %v", l, got)
		}
	}
}

// P8.1, P8.3: lists of all kinds, code point by code point.
func TestOfEach(t *testing.T) {
	for _, l := range slices.Concat(odd(), scattered(12, 12)) {
		meets(t, l, right(t, l), 0, top)
	}
}

// P8.1, P8.3: all ranges of 140 numbers at each edge.
func TestOfShort(t *testing.T) {
	for _, edge := range []int{0, 128, 192, 2048, 4096, 0xd800, 0xe000, 0x10000, 0x20fc0, 0x40000, 0x100000, top + 1} {
		from, to := edge-70, edge+69
		for lo := from; lo <= to; lo++ {
			for hi := lo - 1; hi <= to; hi++ {
				l := of(lo, hi)
				rows := right(t, l)
				if (lo+hi)%5 == 0 {
					meets(t, l, rows, from-1, to+1)
				}
			}
		}
	}
}

// P8.1, P8.3: ranges from each edge to each other one, of all code points that are near an edge.
func TestOfEdges(t *testing.T) {
	var edges []int
	for _, c := range []int{0, 64, 128, 192, 2048, 4096, 0xa000, 0xd800, 0xe000, 0xf000, 0x10000, 0x11000, 0x40000, 0x41000, 0x80040, 0x100000, 0x10f000, 0x10ffc0, top + 1} {
		edges = append(edges, c-1, c, c+1)
	}
	edges = append(edges, math.MinInt, math.MaxInt, 'q', 0x3b1, 0x4e2d, 0x1f600)
	for _, lo := range edges {
		for _, hi := range edges {
			l := of(lo, hi)
			rows := right(t, l)
			for _, c := range edges {
				if c >= 0 && c <= top {
					meets(t, l, rows, c-1, c+1)
				}
			}
		}
	}
}

// P8.1, P8.3: many ranges.
func TestOfMany(t *testing.T) {
	for i, l := range slices.Concat(scattered(60, 40), scattered(6, 900)) {
		rows := right(t, l)
		for from := i; from < top; from += 40009 {
			meets(t, l, rows, from, from+3)
		}
	}
	var each []api.Range
	for c := 0; c <= top; c += 3 {
		each = append(each, api.Range{Lo: c, Hi: c})
	}
	slices.Reverse(each)
	if rows := right(t, each); len(rows) != sizeOf(each) {
		t.Errorf("Of each third number: %d rows", len(rows))
	}
}

// P8.1: the rows of a set hang on the set alone.
func TestOfSame(t *testing.T) {
	for _, l := range slices.Concat(odd(), scattered(40, 60)) {
		want := Of(l)
		back := slices.Clone(l)
		slices.Reverse(back)
		for _, same := range [][]api.Range{ranges.Of(l...), back, slices.Concat(l, of(7, 3), l), slices.Concat(of(0xd800, 0xdfff), l)} {
			if got := Of(same); !slices.EqualFunc(got, want, slices.Equal) {
				t.Fatalf("Of(%v): %v, not %v", same, got, want)
			}
		}
	}
}

// P8.3: all texts of up to two bytes, and many of three, four and five.
func TestTexts(t *testing.T) {
	for _, l := range [][]api.Range{of(0, top), of('a', 'c', 233, 8364), of(0x90, 0xfffff)} {
		rows := Of(l)
		want := map[string]int{}
		for c := range top + 1 {
			if scalar(c) && in(l, c) {
				want[bytesOf(c)] = 1
			}
		}
		try := func(s string) {
			if n := howMany(rows, s); n != want[s] || Any(rows, s) != (n == 1) {
				t.Fatalf("Of(%v): %d rows match %q", l, n, s)
			}
		}
		try("")
		for i := range 1 << 16 {
			try(string([]byte{byte(i >> 8)}))
			try(string([]byte{byte(i >> 8), byte(i)}))
		}
		for i := 0; i < 1<<24; i += 11 {
			try(string([]byte{byte(i >> 16), byte(i >> 8), byte(i)}))
		}
		edges := []byte{0, 'a', 0x7f, 0x80, 0x8f, 0x90, 0x9f, 0xa0, 0xbf, 0xc0, 0xc1, 0xc2, 0xdf, 0xe0, 0xed, 0xef, 0xf0, 0xf1, 0xf4, 0xf5, 0xff}
		for _, a := range edges {
			for _, b := range edges {
				for _, c := range edges {
					for _, d := range edges {
						try(string([]byte{a, b, c, d}))
						try(string([]byte{a, b, c, d, 0x80}))
					}
				}
			}
		}
	}
}

// P8.2: by hand.
func TestMatch(t *testing.T) {
	wide := api.Range{Lo: math.MinInt, Hi: math.MaxInt}
	for _, c := range []struct {
		row []api.Range
		s   string
	}{
		{of(97, 98), "b"}, {of(97, 98), "a"}, {of(0, 0), "\x00"}, {of(255, 255), "\xff"}, {of(-5, 300), "\x00"}, {of(-5, 300), "\xff"}, {of(200, math.MaxInt), "\xc8"}, {of(math.MinInt, 3), "\x03"},
		{of(195, 195, 169, 169), "é"}, {of(194, 223, 128, 191), "\xdf\x80"}, {of(97, 97, 98, 98, 99, 99, 100, 100), "abcd"}, {of(97, 97, 98, 98, 99, 99, 100, 100, 101, 101), "abcde"},
		{[]api.Range{wide}, "x"}, {slices.Repeat([]api.Range{wide}, 9), "\x00\xff2345678"}, {slices.Repeat(of('a', 'b'), 1000), strings.Repeat("ab", 500)},
	} {
		if !Match(c.row, c.s) || !Any([][]api.Range{nil, of(1, 0), c.row, nil}, c.s) {
			t.Errorf("Match(%v, %q): false", c.row, c.s)
		}
	}
	for _, c := range []struct {
		row []api.Range
		s   string
	}{
		{of(97, 98), "c"}, {of(97, 98), "`"}, {of(97, 98), ""}, {of(97, 98), "ab"}, {of(97, 98), "aa"}, {nil, ""}, {nil, "a"}, {of(), ""}, {[]api.Range{}, ""}, {[]api.Range{}, "\x00"},
		{of(98, 97), "a"}, {of(98, 97), "b"}, {of(256, 300), "\x00"}, {of(256, 300), "\xff"}, {of(-9, -1), "\xff"}, {of(-9, -1), "\x00"}, {of(1<<32+97, 1<<32+97), "a"}, {of(97-256, 97-256), "a"},
		{of(math.MaxInt, math.MinInt), "a"}, {of(math.MinInt, math.MinInt), "\x00"}, {of(math.MaxInt, math.MaxInt), "\xff"}, {of(0, 127), "\x80"}, {of(0, 255), "é"},
		{of(195, 195, 169, 169), "\xc3"}, {of(195, 195, 169, 169), "\xc3\xaa"}, {of(195, 195, 169, 169), "\xc4\xa9"}, {of(195, 195, 169, 169), "\xa9\xc3"}, {of(195, 195, 169, 169), "éa"}, {of(195, 195, 169, 169), "aé"},
		{of(97, 97, 98, 98, 99, 99, 100, 100, 101, 101), "abcd"}, {of(97, 97, 98, 98, 99, 99, 100, 100, 101, 101), "abcdf"}, {of(97, 97, 98, 98, 99, 99, 100, 100, 101, 101), "abcdef"},
		{slices.Repeat([]api.Range{wide}, 9), "01234567"}, {slices.Repeat([]api.Range{wide}, 9), "0123456789"}, {slices.Repeat(of('a', 'b'), 1000), strings.Repeat("ab", 499) + "ac"},
	} {
		if Match(c.row, c.s) || Any([][]api.Range{nil, of(1, 0), c.row, nil}, c.s) {
			t.Errorf("Match(%v, %q): true", c.row, c.s)
		}
	}
}

// P8.2: one of some rows, wherever it stands.
func TestAny(t *testing.T) {
	rows := [][]api.Range{of('x', 'z'), nil, of('a', 'b', 'c', 'd'), of('a', 'a', 'd', 'e'), {}, of('0', '9', '0', '9', '0', '9', '0', '9', '0', '9')}
	for s, want := range map[string]bool{
		"x": true, "z": true, "w": false, "": false, "ac": true, "ad": true, "ae": true, "bd": true, "be": false, "a": false, "ax": false, "xa": false, "01234": true, "0123": false, "012345": false, "0123x": false, "x1234": false,
	} {
		if Any(rows, s) != want {
			t.Errorf("Any(%v, %q): %v", rows, s, !want)
		}
		if slices.ContainsFunc(rows, func(row []api.Range) bool { return Match(row, s) }) != want {
			t.Errorf("Match of one of %v, %q: %v", rows, s, !want)
		}
	}
	for _, s := range []string{"", "a", "\x00", "abcde"} {
		if Any(nil, s) || Any([][]api.Range{}, s) || Any([][]api.Range{nil, {}, nil}, s) {
			t.Errorf("Any of none, %q", s)
		}
	}
}

// pieces are ranges of all kinds, for rows of up to two.
func pieces() []api.Range {
	l := of(0, 255, 0, 0, 255, 255, 97, 99, 99, 97, -5, 300, -5, -1, -5, 0, 255, 256, 256, 300, 128, 191, 10, 9)
	return append(l, of(math.MinInt, math.MaxInt, math.MaxInt, math.MinInt, math.MinInt, 3, 200, math.MaxInt, math.MinInt, math.MinInt, math.MaxInt, math.MaxInt, math.MinInt, -1, 256, math.MaxInt)...)
}

// P8.2: rows of one and of two ranges of all kinds, text by text.
func TestMatchCount(t *testing.T) {
	for _, a := range pieces() {
		n := 0
		for c := range 256 {
			s, want := string([]byte{byte(c)}), c >= a.Lo && c <= a.Hi
			if want {
				n++
			}
			if Match([]api.Range{a}, s) != want || Any([][]api.Range{{a}}, s) != want {
				t.Fatalf("Match(%v, %q): %v", a, s, !want)
			}
		}
		if got := Count([][]api.Range{{a}}); got != n {
			t.Fatalf("Count(%v): %d, not %d", a, got, n)
		}
		for _, b := range pieces() {
			both, n := []api.Range{a, b}, 0
			for i := range 1 << 16 {
				c, d := i>>8, i&255
				want := c >= a.Lo && c <= a.Hi && d >= b.Lo && d <= b.Hi
				if want {
					n++
				}
				if Match(both, string([]byte{byte(c), byte(d)})) != want {
					t.Fatalf("Match(%v, %d %d): %v", both, c, d, !want)
				}
			}
			if got := Count([][]api.Range{both, nil, {a}}); got != n+Count([][]api.Range{{a}}) {
				t.Fatalf("Count(%v): %d, not %d", both, got, n)
			}
		}
	}
}

// P8.2: how many, by hand.
func TestCount(t *testing.T) {
	byteRange, wide := api.Range{Lo: 0, Hi: 255}, api.Range{Lo: math.MinInt, Hi: math.MaxInt}
	for _, c := range []struct {
		rows [][]api.Range
		n    int
	}{
		{nil, 0}, {[][]api.Range{}, 0}, {[][]api.Range{nil}, 0}, {[][]api.Range{{}, nil}, 0}, {[][]api.Range{of(97, 99)}, 3}, {[][]api.Range{of(97, 99), of(97, 99)}, 6}, {[][]api.Range{of(99, 97)}, 0},
		{[][]api.Range{of(194, 223, 128, 191)}, 1920}, {[][]api.Range{of(1, 2, 5, 4)}, 0}, {[][]api.Range{of(5, 4, 1, 2)}, 0}, {[][]api.Range{of(5, 4, 5, 4)}, 0}, {[][]api.Range{of(5, 2, 5, 2)}, 0}, {[][]api.Range{of(1, 2, 5, 4), of(7, 7)}, 1},
		{[][]api.Range{of(1, 2, 1, 2, 1, 2, 1, 2)}, 16}, {[][]api.Range{of(1, 2, 1, 2, 1, 2, 1, 2, 1, 2)}, 0}, {[][]api.Range{of(1, 2, 1, 2, 1, 2, 1, 2, 1, 2), of(1, 2)}, 2}, {[][]api.Range{of(1, 2, 1, 2, 1, 2)}, 8},
		{[][]api.Range{{byteRange}}, 256}, {[][]api.Range{slices.Repeat([]api.Range{byteRange}, 4)}, 1 << 32}, {[][]api.Range{slices.Repeat([]api.Range{wide}, 4)}, 1 << 32}, {[][]api.Range{slices.Repeat([]api.Range{wide}, 5)}, 0},
		{slices.Repeat([][]api.Range{slices.Repeat([]api.Range{wide}, 4)}, 1000), 1000 << 32}, {[][]api.Range{slices.Repeat([]api.Range{wide}, 500)}, 0}, {[][]api.Range{of(-5, 300)}, 256}, {[][]api.Range{of(256, 300)}, 0},
		{[][]api.Range{of(-9, -1)}, 0}, {[][]api.Range{of(math.MaxInt, math.MinInt)}, 0}, {[][]api.Range{of(math.MaxInt, math.MaxInt)}, 0}, {[][]api.Range{of(math.MinInt, math.MinInt)}, 0}, {[][]api.Range{of(1, math.MinInt, 0, 255)}, 0},
	} {
		if got := Count(c.rows); got != c.n {
			t.Errorf("Count(%v): %d, not %d", c.rows, got, c.n)
		}
	}
}

// spare has a list with spare room behind it.
func spare(l []api.Range) []api.Range {
	all := append(slices.Clone(l), of(3, 5, 60, 70)...)
	return all[:len(l)]
}

// P8.1, P8.2: what is handed in isn't changed, its spare room neither; what is handed out is new memory, of which no two rows share any.
func TestMemory(t *testing.T) {
	for _, l := range slices.Concat(odd(), scattered(20, 9)) {
		given := spare(l)
		want := Of(l)
		got := Of(given)
		for i, row := range got {
			all := row[:cap(row)]
			for j := range all {
				all[j] = api.Range{Lo: i, Hi: -7}
			}
		}
		for i, row := range got {
			for _, r := range row {
				if r != (api.Range{Lo: i, Hi: -7}) {
					t.Fatalf("Of(%v): rows share memory", l)
				}
			}
		}
		clear(got[:cap(got)])
		if !slices.Equal(given[:len(l)+2], append(slices.Clone(l), of(3, 5, 60, 70)...)) {
			t.Fatalf("Of(%v) changed what was handed in: %v", l, given[:len(l)+2])
		}
		if again := Of(given); !slices.EqualFunc(again, want, slices.Equal) {
			t.Fatalf("Of(%v): %v, not %v", l, again, want)
		}
	}
	rows := [][]api.Range{spare(of(1, 2)), spare(of(97, 99, 300, -3)), nil}
	rows = append(rows, of(8, 9))[:3]
	Any(rows, "a")
	Any(rows, "bb")
	Match(rows[1], "bb")
	Count(rows)
	if !slices.Equal(rows[0][:3], of(1, 2, 3, 5, 60, 70)) || !slices.Equal(rows[1][:4], of(97, 99, 300, -3, 3, 5, 60, 70)) || rows[2] != nil || !slices.Equal(rows[:4][3], of(8, 9)) {
		t.Errorf("rows that were handed in: %v", rows)
	}
}

package ranges

import (
	"math"
	"slices"
	"testing"

	"spool/api"
)

const top = api.MaxRune

// of are ranges, of two numbers each.
func of(n ...int) []api.Range {
	var l []api.Range
	for i := 0; i+1 < len(n); i += 2 {
		l = append(l, api.Range{Lo: n[i], Hi: n[i+1]})
	}
	return l
}

// marked tells of each number from 0 to MaxRune whether it is in one of any ranges.
func marked(l []api.Range) []bool {
	in := make([]bool, top+1)
	for _, r := range l {
		for c := max(r.Lo, 0); c <= min(r.Hi, top); c++ {
			in[c] = true
		}
	}
	return in
}

// told has the set of the numbers that are marked, which is found number by number; the first one marked is from.
func told(in []bool, from int) []api.Range {
	var l []api.Range
	for i, is := range in {
		c := from + i
		if !is {
			continue
		}
		if len(l) > 0 && l[len(l)-1].Hi == c-1 {
			l[len(l)-1].Hi = c
		} else {
			l = append(l, api.Range{Lo: c, Hi: c})
		}
	}
	return l
}

// near are the numbers from and behind that the short lists are about, cut to those that a set may have.
func near(from int) (int, int) { return max(from, 0), min(from+6, top) }

// setOf has the set of ranges whose numbers are all near.
func setOf(l []api.Range, from int) []api.Range {
	lo, hi := near(from)
	in := make([]bool, hi-lo+1)
	for c := lo; c <= hi; c++ {
		in[c-lo] = slices.ContainsFunc(l, func(r api.Range) bool { return r.Lo <= c && c <= r.Hi })
	}
	return told(in, lo)
}

// starts are where short lists begin: about 0, in the middle, and about MaxRune.
var starts = []int{-2, 0, 0x7f, 0xfffe, top - 6, top - 4}

// all7 are all ranges of seven numbers, those that are the wrong way round among them.
func all7(from int) []api.Range {
	var l []api.Range
	for lo := range 7 {
		for hi := range 7 {
			l = append(l, api.Range{Lo: from + lo, Hi: from + hi})
		}
	}
	return l
}

// pairs are all lists of up to two ranges of seven numbers.
func pairs(from int) [][]api.Range {
	l := [][]api.Range{nil}
	for _, r := range all7(from) {
		l = append(l, []api.Range{r})
		for _, s := range all7(from) {
			l = append(l, []api.Range{r, s})
		}
	}
	return l
}

// few are sets of seven numbers, each of them, told by ranges that need not be a set.
func few(from int) [][]api.Range {
	var l [][]api.Range
	for bits := range 1 << 7 {
		var one []api.Range
		for i := range 7 {
			if bits>>i&1 == 1 {
				one = append(one, api.Range{Lo: from + i, Hi: from + i})
			}
		}
		slices.Reverse(one)
		l = append(l, one)
	}
	return l
}

// odd are lists with numbers from the whole range, and lists that are wrong.
func odd() [][]api.Range {
	return [][]api.Range{
		nil, {}, of(0, 0), of(top, top), of(0, top), of(-1, -1), of(top+1, top+1), of(-5, top+5), of(1, 0), of(top, 0), of(top+1, top), of(0, -1),
		of(math.MinInt, math.MaxInt), of(math.MaxInt, math.MinInt), of(math.MinInt, math.MinInt), of(math.MaxInt, math.MaxInt),
		of(math.MinInt, -1), of(math.MinInt, 0), of(math.MinInt, 7), of(top+1, math.MaxInt), of(top, math.MaxInt), of(9, math.MaxInt),
		of(math.MinInt, 4, 6, math.MaxInt), of(math.MinInt, 4, 5, math.MaxInt), of(math.MaxInt, 3, 8, math.MinInt),
		of(0, 0, 2, 2, 4, 4), of(4, 4, 2, 2, 0, 0), of(0, 9, 0, 9, 0, 9), of(0, 9, 5, 3, 11, 11), of(1, 9, 2, 3, 4, 12, 14, 14),
		of('0', '9', 'A', 'Z', 'a', 'z'), of(0xd800, 0xdfff, 0xffff, 0x10000), of(top-1, top-1, top, top, 0, 1), of(top-2, top-2, top, top),
	}
}

// scattered are lists of many ranges, the same ones each time.
func scattered(lists, most, wide int) [][]api.Range {
	state := uint64(5)
	next := func(n int) int {
		state = state*6364136223846793005 + 1442695040888963407
		return int(state >> 33 % uint64(n))
	}
	var l [][]api.Range
	for range lists {
		var one []api.Range
		for range next(most) {
			lo := next(top+200) - 100
			one = append(one, api.Range{Lo: lo, Hi: lo + next(wide) - 3})
		}
		l = append(l, one)
	}
	return l
}

// many are lists of all kinds, but for the short ones.
func many() [][]api.Range {
	return slices.Concat(odd(), scattered(12, 40, 60000), scattered(4, 3000, 400))
}

// same fails where two lists of ranges aren't the same ones.
func same(t *testing.T, what string, given any, got, want []api.Range) {
	t.Helper()
	if !slices.Equal(got, want) {
		t.Fatalf("%s of %v: %v, not %v", what, given, got, want)
	}
}

// P5.1: by hand.
func TestOf(t *testing.T) {
	for _, c := range []struct{ l, want []api.Range }{
		{of(5, 9, 1, 2, 3, 4), of(1, 9)},
		{nil, nil}, {of(7, 7), of(7, 7)}, {of(9, 5), nil}, {of(1, 2, 4, 5), of(1, 2, 4, 5)}, {of(4, 5, 1, 2), of(1, 2, 4, 5)},
		{of(1, 2, 3, 5), of(1, 5)}, {of(1, 3, 3, 5), of(1, 5)}, {of(1, 9, 2, 3), of(1, 9)}, {of(2, 3, 1, 9), of(1, 9)}, {of(1, 9, 2, 3, 8, 12), of(1, 12)},
		{of(1, 2, 1, 7, 1, 4), of(1, 7)}, {of(1, 1, 3, 3, 5, 5, 2, 2), of(1, 3, 5, 5)}, {of(8, 3, 4, 4), of(4, 4)}, {of(8, 3, 2, 1), nil},
		{of(-5, 3), of(0, 3)}, {of(-5, -1), nil}, {of(-1, 0), of(0, 0)}, {of(-3, -2, 0, 1), of(0, 1)},
		{of(top, top+9), of(top, top)}, {of(top+1, top+9), nil}, {of(top-1, top-1, top, top), of(top-1, top)}, {of(top-2, top-2, top, top), of(top-2, top-2, top, top)},
		{of(math.MinInt, math.MaxInt), of(0, top)}, {of(math.MaxInt, math.MinInt), nil}, {of(math.MinInt, 2, 4, math.MaxInt), of(0, 2, 4, top)},
		{of(math.MinInt, -1, top+1, math.MaxInt), nil}, {of(math.MaxInt, math.MaxInt, 3, 3), of(3, 3)},
	} {
		same(t, "Of", c.l, Of(c.l...), c.want)
	}
	same(t, "Of", "nothing", Of(), nil)
	same(t, "Of", "three", Of(api.Range{Lo: 5, Hi: 9}, api.Range{Lo: 1, Hi: 2}, api.Range{Lo: 3, Hi: 4}), of(1, 9))
}

// P5.1, P5.3: all lists of up to two ranges of seven numbers, and of three of some, at all edges.
func TestOfShort(t *testing.T) {
	for _, from := range starts {
		third := of(from+2, from+3, from+6, from+4, from, from+1)
		for _, l := range pairs(from) {
			same(t, "Of", l, Of(l...), setOf(l, from))
			for _, r := range third {
				l := append(slices.Clone(l), r)
				same(t, "Of", l, Of(l...), setOf(l, from))
			}
		}
	}
}

// P5.1, P5.3: lists of all kinds, number by number.
func TestOfMany(t *testing.T) {
	for _, l := range many() {
		got := Of(l...)
		same(t, "Of", l, got, told(marked(l), 0))
		same(t, "Of of Of", l, Of(got...), got)
		if !Right(got) {
			t.Fatalf("Of(%v): %v is no set", l, got)
		}
		back := slices.Clone(l)
		slices.Reverse(back)
		same(t, "Of", back, Of(back...), got)
	}
}

// P5.1: as many ranges as ask for a heap.
func TestOfHuge(t *testing.T) {
	var apart, touch []api.Range
	for i := range 300000 {
		c := (i*7919 + 11) % 300000
		apart = append(apart, api.Range{Lo: 3 * c, Hi: 3*c + 1})
		touch = append(touch, api.Range{Lo: 3 * c, Hi: 3*c + 2})
	}
	got := Of(apart...)
	if len(got) != 300000 || !Right(got) || Count(apart) != 600000 || got[299999] != (api.Range{Lo: 899997, Hi: 899998}) {
		t.Errorf("Of many that are apart: %d of them", len(got))
	}
	same(t, "Of", "many that touch", Of(touch...), of(0, 899999))
}

// P5.1: what is a set, by hand.
func TestRight(t *testing.T) {
	for _, l := range [][]api.Range{nil, {}, of(0, 0), of(top, top), of(0, top), of(1, 2, 4, 5), of(0, 0, 2, 2, 4, 4), of(0, top-2, top, top), of(5, 9, 11, 11)} {
		if !Right(l) {
			t.Errorf("Right(%v): false", l)
		}
	}
	for _, l := range [][]api.Range{
		of(1, 2, 3, 4), of(1, 2, 2, 4), of(1, 5, 2, 4), of(1, 1, 1, 1), of(4, 3), of(0, -1), of(5, 6, 1, 2), of(0, top+1), of(-1, 4), of(-1, -1), of(top+1, top+1),
		of(0, 3, 6, 5), of(0, 3, 9, 5), of(6, 5, 7, 8), of(1, 2, 4, top+1), of(0, 1, 3, 4, 5, 6), of(0, 1, 3, 4, 2, 2), of(1, 1, -3, -3),
		of(math.MinInt, math.MaxInt), of(0, math.MaxInt), of(math.MinInt, 0), of(math.MaxInt, math.MinInt), of(0, math.MaxInt, 1, 1), of(0, math.MaxInt, math.MinInt, 1),
		of(math.MaxInt, math.MaxInt), of(0, math.MaxInt-1, math.MaxInt, math.MaxInt), of(1, 2, math.MinInt, math.MinInt),
	} {
		if Right(l) {
			t.Errorf("Right(%v): true", l)
		}
	}
}

// P5.1: a list is a set just where it is the set of itself.
func TestRightShort(t *testing.T) {
	for _, from := range starts {
		for _, l := range pairs(from) {
			if want := slices.Equal(l, setOf(l, from)); Right(l) != want {
				t.Fatalf("Right(%v): %v", l, !want)
			}
			for _, r := range of(from, from, from+3, from+5, from+6, from+6) {
				l := append(slices.Clone(l), r)
				if want := slices.Equal(l, setOf(l, from)); Right(l) != want {
					t.Fatalf("Right(%v): %v", l, !want)
				}
			}
		}
	}
}

// P5.1: by hand, and beside all edges.
func TestHas(t *testing.T) {
	wide := of(math.MinInt, math.MaxInt)
	for _, c := range []int{math.MinInt, math.MinInt + 1, math.MinInt32, -2, -1, top + 1, top + 2, math.MaxInt32, math.MaxInt - 1, math.MaxInt} {
		if Has(wide, c) || Has(of(c, c), c) || Has(of(0, top), c) || Has(nil, c) {
			t.Errorf("Has %d: true", c)
		}
	}
	for _, c := range []int{0, 1, 127, 128, 0xd800, 0xffff, top - 1, top} {
		if !Has(wide, c) || !Has(of(c, c), c) || !Has(of(9, 3, c-1, c), c) || !Has(of(0, top), c) || Has(nil, c) || Has(of(c+1, c-1), c) || Has(of(c+1, c+1, c-1, c-1), c) {
			t.Errorf("Has %d: wrong", c)
		}
	}
	if !Has(of(5, 9, 1, 2, 3, 4), 3) || !Has(of(5, 9, 1, 2), 1) || !Has(of(5, 9, 1, 2), 9) || Has(of(5, 9, 1, 2), 3) || Has(of(5, 9, 1, 2), 0) || Has(of(5, 9, 1, 2), 10) {
		t.Errorf("Has of 5 to 9, 1 to 2")
	}
}

// P5.1: each number near short lists, and how many there are.
func TestHasCountShort(t *testing.T) {
	for _, from := range starts {
		for _, l := range pairs(from) {
			want, n := setOf(l, from), 0
			for c := from - 2; c <= from+9; c++ {
				in := slices.ContainsFunc(want, func(r api.Range) bool { return r.Lo <= c && c <= r.Hi })
				if Has(l, c) != in {
					t.Fatalf("Has(%v, %d): %v", l, c, !in)
				}
				if in {
					n++
				}
			}
			if Count(l) != n {
				t.Fatalf("Count(%v): %d, not %d", l, Count(l), n)
			}
		}
	}
}

// P5.1: each number of lists of all kinds.
func TestHasCountMany(t *testing.T) {
	for _, l := range slices.Concat(odd(), scattered(6, 30, 60000)) {
		n := 0
		for c, in := range marked(l) {
			if in {
				n++
			}
			if Has(l, c) != in {
				t.Fatalf("Has(%v, %d): %v", l, c, !in)
			}
		}
		if Count(l) != n {
			t.Errorf("Count(%v): %d, not %d", l, Count(l), n)
		}
	}
	for _, l := range scattered(4, 3000, 400) {
		if n := Count(Of(l...)); Count(l) != n || Count(l)+Count(Not(l)) != top+1 {
			t.Errorf("Count: %d, not %d", Count(l), n)
		}
	}
}

// P5.1: how many, by hand.
func TestCount(t *testing.T) {
	for _, c := range []struct {
		l []api.Range
		n int
	}{
		{nil, 0}, {of(0, 0), 1}, {of(0, top), 1114112}, {of(math.MinInt, math.MaxInt), 1114112}, {of(1, 3, 2, 5), 5}, {of(1, 3, 1, 3), 3},
		{of(5, 1), 0}, {of(-9, -1), 0}, {of(-9, 1), 2}, {of(top, top+8), 1}, {of(math.MaxInt, math.MinInt), 0}, {of(9, 9, 1, 2, 7, 6), 3},
	} {
		if Count(c.l) != c.n {
			t.Errorf("Count(%v): %d", c.l, Count(c.l))
		}
	}
}

// P5.2: by hand.
func TestNot(t *testing.T) {
	for _, c := range []struct{ l, want []api.Range }{
		{nil, of(0, top)}, {of(0, top), nil}, {of(math.MinInt, math.MaxInt), nil}, {of(3, 2), of(0, top)}, {of(-4, -1, top+1, top+4), of(0, top)},
		{of(1, 5, 10, 20), of(0, 0, 6, 9, 21, top)}, {of(0, 0), of(1, top)}, {of(top, top), of(0, top-1)}, {of(1, top), of(0, 0)}, {of(0, top-1), of(top, top)},
		{of(1, top-1), of(0, 0, top, top)}, {of(7, 9, 3, 5), of(0, 2, 6, 6, 10, top)}, {of(7, 9, 3, 6), of(0, 2, 10, top)}, {of(-9, 4, 6, math.MaxInt), of(5, 5)},
	} {
		same(t, "Not", c.l, Not(c.l), c.want)
	}
}

// P5.2: by hand.
func TestUnion(t *testing.T) {
	same(t, "Union", "nothing", Union(), nil)
	for _, c := range []struct {
		l    [][]api.Range
		want []api.Range
	}{
		{[][]api.Range{nil}, nil}, {[][]api.Range{nil, {}, nil}, nil}, {[][]api.Range{of(5, 6, 1, 2)}, of(1, 2, 5, 6)},
		{[][]api.Range{of(1, 5, 10, 20), of(4, 12, 30, 31)}, of(1, 20, 30, 31)}, {[][]api.Range{of(1, 1), of(3, 3), of(2, 2)}, of(1, 3)},
		{[][]api.Range{of(9, 9), nil, of(3, 1), of(-5, 0), of(top, math.MaxInt)}, of(0, 0, 9, 9, top, top)}, {[][]api.Range{of(0, 0), of(math.MinInt, math.MaxInt)}, of(0, top)},
		{[][]api.Range{of(1, 2), of(1, 2), of(1, 2), of(1, 2)}, of(1, 2)}, {[][]api.Range{of(8, 8, 6, 6), of(4, 4, 2, 2), of(7, 7, 3, 3)}, of(2, 4, 6, 8)},
	} {
		same(t, "Union", c.l, Union(c.l...), c.want)
	}
}

// P5.2: by hand.
func TestBothLess(t *testing.T) {
	for _, c := range []struct{ a, b, both, less []api.Range }{
		{of(1, 5, 10, 20), of(4, 12, 30, 31), of(4, 5, 10, 12), of(1, 3, 13, 20)},
		{nil, nil, nil, nil}, {nil, of(1, 5), nil, nil}, {of(1, 5), nil, nil, of(1, 5)}, {of(1, 5), of(5, 1), nil, of(1, 5)}, {of(5, 1), of(1, 5), nil, nil},
		{of(1, 5), of(1, 5), of(1, 5), nil}, {of(1, 9), of(3, 3), of(3, 3), of(1, 2, 4, 9)}, {of(3, 3), of(1, 9), of(3, 3), nil}, {of(1, 4), of(5, 9), nil, of(1, 4)},
		{of(1, 4), of(4, 9), of(4, 4), of(1, 3)}, {of(1, 9), of(7, 8, 3, 4, 5, 5), of(3, 5, 7, 8), of(1, 2, 6, 6, 9, 9)}, {of(7, 9, 1, 4), of(4, 7), of(4, 4, 7, 7), of(1, 3, 8, 9)},
		{of(0, top), of(-3, 0, top, top+3), of(0, 0, top, top), of(1, top-1)}, {of(math.MinInt, math.MaxInt), of(4, 4), of(4, 4), of(0, 3, 5, top)},
		{of(-9, -1), of(-9, -1), nil, nil}, {of(top+1, math.MaxInt), of(top+1, math.MaxInt), nil, nil}, {of(1, 2, 3, 4), of(2, 3), of(2, 3), of(1, 1, 4, 4)},
		{of(0, 2, 4, 6, 8, 9), of(1, 8), of(1, 2, 4, 6, 8, 8), of(0, 0, 9, 9)}, {of(6, 7), of(math.MinInt, math.MaxInt), of(6, 7), nil},
	} {
		given := [][]api.Range{c.a, c.b}
		same(t, "Both", given, Both(c.a, c.b), c.both)
		same(t, "Both, turned", given, Both(c.b, c.a), c.both)
		same(t, "Less", given, Less(c.a, c.b), c.less)
	}
}

// P5.2: by hand.
func TestSame(t *testing.T) {
	for _, c := range [][2][]api.Range{
		{nil, {}}, {nil, of(5, 1)}, {nil, of(-7, -1)}, {nil, of(top+1, math.MaxInt)}, {of(1, 2, 3, 3), of(1, 3)}, {of(5, 6, 1, 2), of(1, 2, 5, 6)}, {of(0, top), of(math.MinInt, math.MaxInt)},
		{of(1, 9, 2, 3), of(1, 9)}, {of(-5, 0), of(0, 0)}, {of(7, 7), of(7, 7, 7, 7)}, {of(8, 8, 9, 4), of(8, 8)},
	} {
		if !Same(c[0], c[1]) || !Same(c[1], c[0]) {
			t.Errorf("Same(%v, %v): false", c[0], c[1])
		}
	}
	for _, c := range [][2][]api.Range{
		{nil, of(0, 0)}, {nil, of(top, top)}, {of(1, 2), of(1, 3)}, {of(1, 3), of(0, 3)}, {of(1, 3), of(1, 1, 3, 3)}, {of(0, top), of(0, top-1)}, {of(0, top), of(1, top)},
		{of(1, 2, 5, 6), of(1, 2)}, {of(1, 2, 5, 6), of(5, 6)}, {of(1, 2), of(3, 4)}, {of(1, 1), of(-1, 1)},
	} {
		if Same(c[0], c[1]) || Same(c[1], c[0]) {
			t.Errorf("Same(%v, %v): true", c[0], c[1])
		}
	}
}

// P5.2, P5.3: Not of all short lists.
func TestNotShort(t *testing.T) {
	for _, from := range starts {
		lo, hi := near(from)
		for _, l := range pairs(from) {
			got, set := Not(l), setOf(l, from)
			if !Right(got) || !slices.Equal(Not(got), set) {
				t.Fatalf("Not(%v): %v", l, got)
			}
			for c := lo - 1; c <= hi+1; c++ {
				if want := c >= 0 && c <= top && !Has(set, c); Has(got, c) != want {
					t.Fatalf("Not(%v): %v, wrong of %d", l, got, c)
				}
			}
			if Count(got)+Count(set) != top+1 {
				t.Fatalf("Not(%v): %v", l, got)
			}
		}
	}
}

// P5.2, P5.3: each two sets of seven numbers.
func TestTwoShort(t *testing.T) {
	for _, from := range []int{-2, 60, top - 4} {
		sets := few(from)
		for i, a := range sets {
			for j, b := range sets {
				given := [][]api.Range{a, b}
				both, less := Both(a, b), Less(a, b)
				same(t, "Both", given, both, setOf(sets[i&j], from))
				same(t, "Less", given, less, setOf(sets[i&^j], from))
				same(t, "Union", given, Union(a, b), setOf(sets[i|j], from))
				if want := slices.Equal(setOf(a, from), setOf(b, from)); Same(a, b) != want {
					t.Fatalf("Same(%v, %v): %v", a, b, !want)
				}
			}
		}
	}
}

// P5.2, P5.3: of any ranges, where they lie over one another or are no ranges.
func TestTwoOverlapping(t *testing.T) {
	for _, from := range starts {
		lists := pairs(from)
		for i, a := range lists {
			b := lists[(i*379+41)%len(lists)]
			given, all := [][]api.Range{a, b}, setOf(slices.Concat(a, b), from)
			both, less := Both(a, b), Less(a, b)
			same(t, "Union", given, Union(a, b), all)
			same(t, "Union of Both and Less", given, Of(append(slices.Clone(both), less...)...), setOf(a, from))
			if !Right(both) || !Right(less) || Count(both)+Count(less) != Count(a) || Count(less)+Count(b) != Count(all) {
				t.Fatalf("Both, Less of %v: %v, %v", given, both, less)
			}
		}
	}
}

// P5.2, P5.3: each two lists of all kinds.
func TestTwoMany(t *testing.T) {
	lists := many()
	for i, a := range lists {
		in := marked(a)
		not := slices.Clone(in)
		for c := range not {
			not[c] = !not[c]
		}
		same(t, "Not", a, Not(a), told(not, 0))
		same(t, "Not of Not", a, Not(Not(a)), told(in, 0))
		b := lists[(i*5+3)%len(lists)]
		both, less, union := slices.Clone(in), slices.Clone(in), slices.Clone(in)
		for c, is := range marked(b) {
			both[c], less[c], union[c] = in[c] && is, in[c] && !is, in[c] || is
		}
		given := [][]api.Range{a, b}
		same(t, "Both", given, Both(a, b), told(both, 0))
		same(t, "Less", given, Less(a, b), told(less, 0))
		same(t, "Union", given, Union(a, b), told(union, 0))
		same(t, "Union", given, Union(b, nil, a, a), told(union, 0))
	}
}

// P5.3: what is told is a set; what is told twice over is the same.
func TestLaws(t *testing.T) {
	lists := many()
	for _, a := range lists {
		for _, b := range lists {
			both, less := Both(a, b), Less(a, b)
			for _, l := range [][]api.Range{both, less, Union(a, b), Not(a)} {
				if !Right(l) {
					t.Fatalf("of %v and %v: %v is no set", a, b, l)
				}
			}
			if !Same(Union(both, less), a) || len(Both(both, less)) > 0 || !Same(Not(Union(a, b)), Both(Not(a), Not(b))) || Same(a, b) != (len(Less(a, b))+len(Less(b, a)) == 0) {
				t.Fatalf("of %v and %v: both %v, less %v", a, b, both, less)
			}
		}
	}
}

// spare is a list with room behind it, in which something stands.
func spare(l []api.Range) []api.Range {
	room := append(slices.Clone(l), of(3, 3, 77, 70, -1, -1)...)
	return room[:len(l)]
}

// answers are what all calls tell of two lists.
func answers(a, b []api.Range) [][]api.Range {
	return [][]api.Range{Of(a...), Not(a), Union(a), Union(a, b), Both(a, b), Both(a, a), Less(a, b), Less(a, nil), Of(b...)}
}

// P5.1, P5.2: what is handed in stays, its spare room too; what is handed out is new.
func TestMemory(t *testing.T) {
	for _, l := range [][]api.Range{nil, of(4, 9), of(1, 2, 5, 9), of(5, 9, 1, 2), of(-4, top+5), of(0, top), of(9, 1, 3, 3)} {
		for _, m := range [][]api.Range{nil, of(4, 9), of(2, 7, 1, 1), of(0, top)} {
			a, b := spare(l), spare(m)
			Right(a)
			Has(a, 5)
			Count(a)
			Same(a, b)
			got := answers(a, b)
			want := make([][]api.Range, len(got))
			for i, g := range got {
				want[i] = slices.Clone(g)
			}
			for i, g := range got {
				for j := range g[:cap(g)] {
					g[:cap(g)][j] = api.Range{Lo: -7, Hi: -9}
				}
				for k, other := range got[i+1:] {
					same(t, "what else was told", a, other, want[i+1+k])
				}
			}
			for _, x := range [][2][]api.Range{{a, l}, {b, m}} {
				same(t, "what was handed in", l, x[0], x[1])
				same(t, "its spare room", l, x[0][len(x[0]):len(x[0])+3], of(3, 3, 77, 70, -1, -1))
			}
			for i, g := range answers(a, b) {
				same(t, "a later call", l, g, want[i])
			}
		}
	}
}

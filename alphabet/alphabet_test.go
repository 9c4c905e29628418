package alphabet

import (
	"math"
	"slices"
	"testing"

	"spool/api"
)

// of are ranges, of two numbers each.
func of(n ...int) []api.Range {
	var l []api.Range
	for i := 0; i+1 < len(n); i += 2 {
		l = append(l, api.Range{Lo: n[i], Hi: n[i+1]})
	}
	return l
}

// apart tells whether one of some ranges has just one of two bytes.
func apart(l []api.Range, a, b int) bool {
	return slices.ContainsFunc(l, func(r api.Range) bool {
		return (r.Lo <= a && a <= r.Hi) != (r.Lo <= b && b <= r.Hi)
	})
}

// numbered are the classes of bytes of which it is told whether two are in one, and how many they are.
func numbered(unlike func(a, b int) bool) ([]int, int) {
	var class, first []int
	for b := range 256 {
		k := slices.IndexFunc(first, func(a int) bool { return !unlike(a, b) })
		if k < 0 {
			k = len(first)
			first = append(first, b)
		}
		class = append(class, k)
	}
	return class, len(first)
}

// right fails where ranges' classes aren't those that the document says.
func right(t *testing.T, l []api.Range) []int {
	t.Helper()
	want, n := numbered(func(a, b int) bool { return apart(l, a, b) })
	got, m := Of(l...)
	if m != n || !slices.Equal(got, want) {
		t.Fatalf("Of(%v): %v, %d, not %v, %d", l, got, m, want, n)
	}
	return got
}

// from are 256 numbers: those of some stretches, each told by its first byte and its number.
func from(n ...int) []int {
	l := make([]int, 256)
	for i := 0; i+1 < len(n); i += 2 {
		for b := n[i]; b < 256; b++ {
			l[b] = n[i+1]
		}
	}
	return l
}

// each are the numbers from 0 to 255, or as many as there are bytes a class.
func each(bytes int) []int {
	var l []int
	for b := range 256 {
		l = append(l, b/bytes)
	}
	return l
}

// next tells numbers below one, the same ones each time.
func next(state *uint64, n int) int {
	*state = *state*6364136223846793005 + 1442695040888963407
	return int(*state >> 33 % uint64(n))
}

// scattered are ranges of all widths, the same ones for a state each time.
func scattered(state *uint64, n int) []api.Range {
	var l []api.Range
	for range n {
		lo := next(state, 270) - 7
		l = append(l, api.Range{Lo: lo, Hi: lo + next(state, 1<<next(state, 9)) - 2})
	}
	return l
}

// edges are numbers at which ranges may begin and end.
func edges() []int {
	return []int{math.MinInt, math.MinInt + 1, -257, -1, 0, 1, 2, 97, 254, 255, 256, 257, 1<<32 + 97, math.MaxInt - 1, math.MaxInt}
}

// P9.1: by hand.
func TestOf(t *testing.T) {
	for _, c := range []struct {
		l    []api.Range
		n    int
		want []int
	}{
		{of(97, 99), 2, from(0, 0, 97, 1, 100, 0)},
		{nil, 1, from()}, {[]api.Range{}, 1, from()}, {of(0, 255), 1, from()}, {of(9, 3), 1, from()}, {of(-5, 300), 1, from()}, {of(-9, -1, 256, 300), 1, from()},
		{of(0, 0), 2, from(1, 1)}, {of(255, 255), 2, from(255, 1)}, {of(1, 255), 2, from(1, 1)}, {of(0, 254), 2, from(255, 1)}, {of(-5, 9), 2, from(10, 1)}, {of(200, 999), 2, from(200, 1)},
		{of(97, 99, 97, 99), 2, from(97, 1, 100, 0)}, {of(0, 96, 100, 255), 3, from(0, 0, 97, 1, 100, 2)}, {of(97, 99, 0, 96), 3, from(0, 0, 97, 1, 100, 2)}, {of(97, 99, 0, 255), 2, from(97, 1, 100, 0)},
		{of(200, 201, 100, 101), 3, from(100, 1, 102, 0, 200, 2, 202, 0)}, {of(97, 122, 101, 101, 200, 999), 4, from(97, 1, 101, 2, 102, 1, 123, 0, 200, 3)},
		{of(10, 20, 15, 25), 4, from(10, 1, 15, 2, 21, 3, 26, 0)}, {of(10, 20, 10, 25), 3, from(10, 1, 21, 2, 26, 0)}, {of(10, 25, 20, 25), 3, from(10, 1, 20, 2, 26, 0)}, {of(10, 15, 16, 20), 3, from(10, 1, 16, 2, 21, 0)},
		{of(10, 30, 15, 25, 20, 20), 4, from(10, 1, 15, 2, 20, 3, 21, 2, 26, 1, 31, 0)}, {of(10, 30, 12, 13, 22, 23), 4, from(10, 1, 12, 2, 14, 1, 22, 3, 24, 1, 31, 0)},
		{of(0, 9, 250, 255), 3, from(10, 1, 250, 2)}, {of(math.MinInt, math.MaxInt), 1, from()}, {of(math.MaxInt, math.MinInt), 1, from()}, {of(math.MinInt, 3), 2, from(4, 1)}, {of(4, math.MaxInt), 2, from(4, 1)},
		{of(1<<32+97, 1<<32+99), 1, from()}, {of(97-256, 99-256), 1, from()}, {of(math.MinInt, math.MinInt, math.MaxInt, math.MaxInt), 1, from()},
	} {
		if got, n := Of(c.l...); n != c.n || !slices.Equal(got, c.want) {
			t.Errorf("Of(%v): %v, %d", c.l, got, n)
		}
	}
}

// P9.1: no, one, two ranges from each edge to each other one.
func TestOfEdges(t *testing.T) {
	var all []api.Range
	for _, lo := range edges() {
		for _, hi := range edges() {
			all = append(all, api.Range{Lo: lo, Hi: hi})
		}
	}
	right(t, nil)
	for i, a := range all {
		right(t, []api.Range{a})
		for j, b := range all {
			if (i+j)%7 == 0 {
				right(t, []api.Range{a, b})
			}
		}
	}
}

// P9.1: all lists of up to three ranges of a few bytes.
func TestOfShort(t *testing.T) {
	for _, edge := range []int{-1, 97, 252} {
		var all []api.Range
		for lo := edge; lo < edge+5; lo++ {
			for hi := lo; hi < edge+5; hi++ {
				all = append(all, api.Range{Lo: lo, Hi: hi})
			}
		}
		for _, a := range all {
			for _, b := range all {
				right(t, []api.Range{a, b})
				for _, c := range all {
					right(t, []api.Range{a, b, c})
				}
			}
		}
	}
}

// P9.1: many ranges of all widths, and their classes whatever order they come in.
func TestOfMany(t *testing.T) {
	state := uint64(9)
	for i := range 400 {
		l := scattered(&state, i%40)
		want := right(t, l)
		back := slices.Clone(l)
		slices.Reverse(back)
		for _, same := range [][]api.Range{back, slices.Concat(l, of(9, 3, -5, 300, 256, 257), l)} {
			if got, _ := Of(same...); !slices.Equal(got, want) {
				t.Fatalf("Of(%v): %v, not %v", same, got, want)
			}
		}
	}
	right(t, scattered(&state, 1000))
	l := scattered(&state, 40000)
	if got, n := Of(l...); n != 256 || !slices.Equal(got, each(1)) {
		t.Fatalf("Of %d ranges: %v, %d", len(l), got, n)
	}
}

// P9.1: each byte alone, and each that ranges leave with another one.
func TestOfEach(t *testing.T) {
	var l []api.Range
	for b := range 256 {
		l = append(l, api.Range{Lo: b, Hi: b})
	}
	if got, n := Of(l...); n != 256 || !slices.Equal(got, each(1)) {
		t.Errorf("Of each byte: %v, %d", got, n)
	}
	for b := range 256 {
		right(t, []api.Range{l[b]})
		most := slices.Delete(slices.Clone(l), b, b+1)
		if got, n := Of(most...); n != 256 || !slices.Equal(got, each(1)) {
			t.Fatalf("Of each byte but %d: %v, %d", b, got, n)
		}
		for _, c := range []int{0, 97, 255} {
			if b == c {
				continue
			}
			got, n := Of(slices.DeleteFunc(slices.Clone(l), func(r api.Range) bool { return r.Lo == b || r.Lo == c })...)
			if n != 255 || !slices.Equal(Bytes(got, got[c]), []int{min(b, c), max(b, c)}) || !Right(got) {
				t.Fatalf("Of each byte but %d and %d: %v, %d", b, c, got, n)
			}
		}
	}
}

// P9.2: right numbers, by hand.
func TestRight(t *testing.T) {
	for _, l := range [][]int{
		from(), from(1, 1), from(255, 1), from(97, 1, 100, 0), from(97, 1, 100, 2), from(10, 1, 20, 0, 30, 2, 40, 1), each(1), each(2), each(128), each(256), each(3), from(1, 1, 2, 2, 3, 3, 4, 0),
	} {
		if !Right(l) {
			t.Errorf("Right(%v): false", l)
		}
	}
	for _, l := range [][]int{
		nil, {}, {0}, {0, 1}, each(1)[:255], from()[:255], from()[:1], append(from(), 0), append(each(1), 255), append(each(1), 256), append(from(), -1), append(from(), from()...), make([]int, 1<<16),
		from(0, 1), from(0, -1), from(1, 2), from(1, -1), from(255, 2), from(255, -1), from(1, 2, 2, 1), from(0, 1, 9, 0), from(97, 1, 100, 3), from(97, 1, 100, 3, 101, 2), from(97, 2, 100, 1),
		from(0, math.MinInt), from(0, math.MaxInt), from(255, math.MaxInt), from(255, math.MinInt), from(97, 1, 98, 1<<32), from(97, 1<<32+1), slices.Repeat([]int{256}, 256), slices.Repeat([]int{-1}, 256),
	} {
		if Right(l) || len(First(l)) > 0 {
			t.Errorf("Right(%v): true; First: %v", l, First(l))
		}
	}
}

// P9.2: right numbers, one of which is put to another one.
func TestRightEach(t *testing.T) {
	state := uint64(9)
	for _, l := range [][]int{from(), each(1), each(2), each(50), right(t, scattered(&state, 5)), right(t, scattered(&state, 30))} {
		for b := 0; b < 256; b += 5 {
			was := l[b]
			for _, k := range slices.Concat(edges(), []int{was - 1, was + 1, was + 2, 3, 5}) {
				l[b] = k
				want, n := numbered(func(a, b int) bool { return l[a] != l[b] })
				if is := Right(l); is != slices.Equal(l, want) {
					t.Fatalf("Right(%v): %v", l, is)
				} else if f := First(l); is && len(f) != n || !is && len(f) > 0 {
					t.Fatalf("First(%v): %v", l, f)
				}
			}
			l[b] = was
		}
	}
}

// P9.2: first bytes.
func TestFirst(t *testing.T) {
	for _, c := range []struct{ l, want []int }{
		{from(), []int{0}}, {from(97, 1, 100, 0), []int{0, 97}}, {from(97, 1, 101, 2, 102, 1, 123, 0, 200, 3), []int{0, 97, 101, 200}}, {from(255, 1), []int{0, 255}}, {from(1, 1), []int{0, 1}}, {each(1), each(1)}, {each(128), []int{0, 128}},
	} {
		if got := First(c.l); !slices.Equal(got, c.want) {
			t.Errorf("First(%v): %v", c.l, got)
		}
	}
	state := uint64(92)
	for i := range 200 {
		l := right(t, scattered(&state, i%30))
		f := First(l)
		if len(f) != slices.Max(l)+1 {
			t.Fatalf("First(%v): %v", l, f)
		}
		for k, b := range f {
			if slices.Index(l, k) != b {
				t.Fatalf("First(%v): %v", l, f)
			}
		}
	}
}

// P9.2: a class's bytes, of rows that are right and of others.
func TestBytes(t *testing.T) {
	for _, c := range []struct {
		l    []int
		k    int
		want []int
	}{
		{from(97, 1, 100, 0), 1, []int{97, 98, 99}}, {from(97, 1, 100, 0), 2, nil}, {from(97, 1, 100, 0), -1, nil}, {from(2, 1, 255, 0), 0, []int{0, 1, 255}}, {from(), 0, each(1)}, {each(1), 255, []int{255}}, {each(1), 256, nil}, {each(1), 0, []int{0}},
		{nil, 0, nil}, {nil, -1, nil}, {[]int{}, 0, nil}, {[]int{5}, 5, []int{0}}, {[]int{5}, -1, nil}, {[]int{5}, 0, nil}, {[]int{3, -1, 3, -1}, -1, []int{1, 3}}, {[]int{3, -1, 3, -1}, 3, []int{0, 2}},
		{append(each(1), 7, 255, 256), 7, []int{7}}, {append(each(1), 7, 255, 256), 255, []int{255}}, {append(each(1), 7, 255, 256), 256, nil}, {make([]int, 1000), 0, each(1)}, {from()[:255], 0, each(1)[:255]},
		{[]int{math.MinInt, math.MaxInt, math.MinInt}, math.MinInt, []int{0, 2}}, {[]int{math.MinInt, math.MaxInt, math.MinInt}, math.MaxInt, []int{1}}, {from(), math.MinInt, nil}, {from(), math.MaxInt, nil}, {from(), 1 << 32, nil},
	} {
		if got := Bytes(c.l, c.k); !slices.Equal(got, c.want) {
			t.Errorf("Bytes(%v, %d): %v", c.l, c.k, got)
		}
	}
	state := uint64(93)
	for i := range 200 {
		l := right(t, scattered(&state, i%30))
		n := 0
		for k := range slices.Max(l) + 2 {
			b := Bytes(l, k)
			if !slices.IsSorted(b) || slices.ContainsFunc(b, func(b int) bool { return l[b] != k }) {
				t.Fatalf("Bytes(%v, %d): %v", l, k, b)
			}
			n += len(slices.Compact(b))
		}
		if n != 256 {
			t.Fatalf("Bytes of %v: %d of them", l, n)
		}
	}
}

// P9.3: by hand.
func TestJoin(t *testing.T) {
	for _, c := range []struct {
		a, b []int
		n    int
		want []int
	}{
		{nil, nil, 1, from()}, {[]int{}, nil, 1, from()}, {from(), nil, 1, from()}, {from(), from(), 1, from()}, {from(97, 1, 100, 0), nil, 2, from(97, 1, 100, 0)}, {nil, from(97, 1, 100, 0), 2, from(97, 1, 100, 0)},
		{[]int{-1}, nil, 1, from()}, {nil, []int{-1, -1}, 1, from()}, {[]int{0}, nil, 2, from(1, 1)}, {[]int{-1}, []int{0}, 2, from(1, 1)}, {slices.Repeat([]int{-1}, 256), nil, 1, from()}, {[]int{5}, []int{6, -1, 6}, 3, from(1, 1, 2, 2, 3, 1)},
		{from(97, 1, 100, 0), []int{5, 5, 6}, 4, from(0, 0, 2, 1, 3, 2, 97, 3, 100, 2)}, {from(10, 1), from(20, 1), 3, from(10, 1, 20, 2)}, {from(10, 1, 30, 0), from(20, 1, 40, 0), 4, from(10, 1, 20, 2, 30, 3, 40, 0)},
		{[]int{1, 2}, []int{2, 1}, 3, from(1, 1, 2, 2)}, {[]int{1, 1, 2, 2}, []int{3, 4, 3, 4}, 5, from(1, 1, 2, 2, 3, 3, 4, 4)}, {from(97, 9, 100, 4), from(97, 1, 100, 0), 3, from(97, 1, 100, 2)}, {each(1), nil, 256, each(1)}, {nil, each(1), 256, each(1)}, {each(16), each(1), 256, each(1)},
		{each(1)[:255], nil, 256, each(1)}, {from()[:255], nil, 2, from(255, 1)}, {from(), from()[:128], 2, from(128, 1)}, {append(from(), 1, 2, 3), append(from(), 4), 1, from()}, {make([]int, 1000), each(1)[:0], 1, from()}, {append(each(2), each(1)...), nil, 128, each(2)},
		{from(0, math.MinInt, 9, math.MaxInt), from(0, math.MaxInt, 9, math.MinInt), 2, from(9, 1)}, {from(0, 1<<32, 9, 0), nil, 2, from(9, 1)}, {from(0, -256, 9, 0, 20, 256), nil, 3, from(9, 1, 20, 2)}, {from(0, 1, 9, 0), from(0, 0, 9, 1), 2, from(9, 1)},
	} {
		if got, n := Join(c.a, c.b); n != c.n || !slices.Equal(got, c.want) {
			t.Errorf("Join(%v, %v): %v, %d", c.a, c.b, got, n)
		}
		if got, n := Join(c.b, c.a); n != c.n || !slices.Equal(got, c.want) {
			t.Errorf("Join(%v, %v): %v, %d", c.b, c.a, got, n)
		}
	}
}

// number tells a byte's number in a row, as the document has it.
func number(l []int, b int) int {
	if b >= len(l) {
		return -1
	}
	return l[b]
}

// P9.3: rows of all lengths, of few numbers and of many.
func TestJoinMany(t *testing.T) {
	state := uint64(94)
	row := func() []int {
		l := make([]int, []int{0, 1, 2, 100, 254, 255, 256, 257, 300}[next(&state, 9)])
		few := 1 << next(&state, 9)
		for i := range l {
			l[i] = next(&state, few) - 1
			if next(&state, 50) == 0 {
				l[i] = edges()[next(&state, len(edges()))]
			}
		}
		return l
	}
	for range 1500 {
		a, b := row(), row()
		want, n := numbered(func(x, y int) bool { return number(a, x) != number(a, y) || number(b, x) != number(b, y) })
		got, m := Join(a, b)
		if m != n || !slices.Equal(got, want) || !Right(got) {
			t.Fatalf("Join(%v, %v): %v, %d, not %v, %d", a, b, got, m, want, n)
		}
	}
}

// P9.1, P9.3: the classes of two lists of ranges, joined, are those of all of them.
func TestJoinOf(t *testing.T) {
	state := uint64(95)
	for i := range 300 {
		a, b := scattered(&state, i%9), scattered(&state, i%13)
		x, _ := Of(a...)
		y, _ := Of(b...)
		got, n := Join(x, y)
		if want, m := Of(slices.Concat(a, b)...); n != m || !slices.Equal(got, want) {
			t.Fatalf("Join of %v and %v: %v, not %v", a, b, got, want)
		}
	}
}

// P9.1 to P9.3: what is handed in stays as it was, its spare room too, and what is handed out is nobody else's.
func TestMemory(t *testing.T) {
	roomy := append(make([]api.Range, 0, 9), of(200, 210, 97, 99, 5, 3)...)
	ranges := slices.Clone(roomy[:cap(roomy)])
	room := append(make([]int, 0, 600), from(97, 1, 100, 0)...)
	numbers := slices.Clone(room[:cap(room)])
	answers := func() [][]int {
		of, _ := Of(roomy...)
		none, _ := Of()
		a, _ := Join(room, room)
		b, _ := Join(room, nil)
		c, _ := Join(nil, nil)
		return [][]int{of, none, a, b, c, First(room), Bytes(room, 0), Bytes(room, 1)}
	}
	want, got := answers(), answers()
	for i := range got {
		whole := got[i][:cap(got[i])]
		for j := range whole {
			whole[j] = -7
		}
		for k, l := range got {
			if k > i && !slices.Equal(l, want[k]) {
				t.Errorf("answer %d shows in answer %d", i, k)
			}
		}
	}
	for i, l := range answers() {
		if !slices.Equal(l, want[i]) {
			t.Errorf("answer %d, again: %v, not %v", i, l, want[i])
		}
	}
	if !Right(room) || !slices.Equal(roomy[:cap(roomy)], ranges) || !slices.Equal(room[:cap(room)], numbers) {
		t.Errorf("arguments were changed: %v, %v", roomy[:cap(roomy)], room[:cap(room)])
	}
}

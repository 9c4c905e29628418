package fold

import (
	"math"
	"slices"
	"strings"
	"testing"

	"spool/api"
	"spool/ranges"
)

const top = api.MaxRune

// All pairs, written out: the small one of each great one stands at the same place.
const (
	allGreat = "ABCDEFGHIJKLMNOPQRSTUVWXYZÀÁÂÃÄÅÆÇÈÉÊËÌÍÎÏÐÑÒÓÔÕÖØÙÚÛÜÝÞΑΒΓΔΕΖΗΘΙΚΛΜΝΞΟΠΡΣΤΥΦΧΨΩΪΫАБВГДЕЖЗИЙКЛМНОПРСТУФХЦЧШЩЪЫЬЭЮЯЀЁЂЃЄЅІЇЈЉЊЋЌЍЎЏ"
	allSmall = "abcdefghijklmnopqrstuvwxyzàáâãäåæçèéêëìíîïðñòóôõöøùúûüýþαβγδεζηθικλμνξοπρστυφχψωϊϋабвгдежзийклмнопрстуфхцчшщъыьэюяѐёђѓєѕіїјљњћќѝўџ"
)

// edges are where the halves of the pairs begin and end, with those of what is in no pair between them.
var edges = []int{65, 90, 97, 122, 192, 214, 215, 216, 222, 224, 246, 247, 248, 254, 913, 929, 930, 931, 939, 945, 961, 962, 963, 971, 1024, 1039, 1040, 1071, 1072, 1103, 1104, 1119}

// of are ranges, of two numbers each.
func of(n ...int) []api.Range {
	var l []api.Range
	for i := 0; i+1 < len(n); i += 2 {
		l = append(l, api.Range{Lo: n[i], Hi: n[i+1]})
	}
	return l
}

// paired has the other one of each number that is in a pair.
func paired() map[int]int {
	great, small := []rune(allGreat), []rune(allSmall)
	m := map[int]int{}
	for i := range great {
		m[int(great[i])], m[int(small[i])] = int(small[i]), int(great[i])
	}
	return m
}

// folded has the set of any ranges, folded, which is found number by number.
func folded(l []api.Range) []api.Range {
	in := make([]bool, top+1)
	for _, r := range l {
		for c := max(r.Lo, 0); c <= min(r.Hi, top); c++ {
			in[c] = true
		}
	}
	was := slices.Clone(in)
	for c, o := range paired() {
		in[o] = in[o] || was[c]
	}
	var set []api.Range
	for c, is := range in {
		last := len(set) - 1
		switch {
		case is && last >= 0 && set[last].Hi == c-1:
			set[last].Hi = c
		case is:
			set = append(set, api.Range{Lo: c, Hi: c})
		}
	}
	return set
}

// same fails where two lists of ranges aren't the same ones.
func same(t *testing.T, what string, given any, got, want []api.Range) {
	t.Helper()
	if !slices.Equal(got, want) {
		t.Fatalf("%s of %v: %v, not %v", what, given, got, want)
	}
}

// P6.1: by hand, at all edges.
func TestOtherSmall(t *testing.T) {
	for _, c := range [][2]int{
		{65, 97}, {66, 98}, {77, 109}, {90, 122}, {192, 224}, {214, 246}, {216, 248}, {222, 254}, {913, 945}, {929, 961}, {931, 963}, {939, 971},
		{1024, 1104}, {1039, 1119}, {1040, 1072}, {1055, 1087}, {1071, 1103},
	} {
		great, small := c[0], c[1]
		if o, ok := Other(great); !ok || o != small {
			t.Errorf("Other(%d): %d, %v", great, o, ok)
		}
		if o, ok := Other(small); !ok || o != great {
			t.Errorf("Other(%d): %d, %v", small, o, ok)
		}
		if Small(great) != small || Small(small) != small {
			t.Errorf("Small of %d, %d: %d, %d", great, small, Small(great), Small(small))
		}
	}
}

// P6.1: numbers that are in no pair, from the whole range.
func TestOtherNone(t *testing.T) {
	for _, c := range []int{
		0, 1, 32, '0', '_', 64, 91, 96, 123, 127, 128, 191, 215, 223, 247, 255, 256, 304, 305, 376, 912, 930, 940, 944, 962, 972, 1023, 1120,
		0x17f, 0x1e9e, 0x212a, 0xd800, 0xff21, 0xffff, 0x10000, 0x10400, top - 1, top, top + 1, top + 66, -1, -2, -31, -32, -65, -80, -97,
		1<<16 + 65, 1<<32 + 65, -1<<32 + 97, math.MaxInt32, math.MinInt32, math.MaxInt - 80, math.MaxInt - 1, math.MaxInt, math.MinInt, math.MinInt + 1, math.MinInt + 80, math.MinInt + 97,
	} {
		if o, ok := Other(c); ok || o != 0 {
			t.Errorf("Other(%d): %d, %v", c, o, ok)
		}
		if Small(c) != c {
			t.Errorf("Small(%d): %d", c, Small(c))
		}
	}
}

// P6.1: all numbers, and some beyond.
func TestOtherSmallAll(t *testing.T) {
	pair := paired()
	if len(pair) != 260 {
		t.Fatalf("%d numbers in pairs", len(pair))
	}
	for c := -2000; c <= top+2000; c++ {
		o, ok := Other(c)
		want, is := pair[c]
		if ok != is || o != want {
			t.Fatalf("Other(%d): %d, %v", c, o, ok)
		}
		if s := Small(c); !is && s != c || is && s != max(c, want) {
			t.Fatalf("Small(%d): %d", c, s)
		}
		if back, ok := Other(o); is && (!ok || back != c || Small(o) != Small(c)) {
			t.Fatalf("Other(%d): %d, %v", o, back, ok)
		}
	}
}

// P6.2: by hand.
func TestSet(t *testing.T) {
	for _, c := range []struct{ l, want []api.Range }{
		{nil, nil}, {[]api.Range{}, nil}, {of(9, 5), nil}, {of(97, 65), nil}, {of(-9, -1), nil}, {of(top+1, top+9), nil},
		{of('a', 'a'), of('A', 'A', 'a', 'a')}, {of('Z', 'Z'), of('Z', 'Z', 'z', 'z')}, {of('a', 'z'), of('A', 'Z', 'a', 'z')}, {of('A', 'Z'), of('A', 'Z', 'a', 'z')},
		{of('A', 'A', 'a', 'a'), of('A', 'A', 'a', 'a')}, {of('Z', 'a'), of('A', 'A', 'Z', 'a', 'z', 'z')}, {of('y', 'y', 'b', 'c', 'B', 'B'), of('B', 'C', 'Y', 'Y', 'b', 'c', 'y', 'y')},
		{of('0', '9'), of('0', '9')}, {of('[', '`'), of('[', '`')}, {of('@', '@'), of('@', '@')}, {of('{', '{'), of('{', '{')}, {of(60, 66, 122, 300), of(60, 66, 90, 90, 97, 98, 122, 300)},
		{of(192, 222), of(192, 222, 224, 246, 248, 254)}, {of(215, 215), of(215, 215)}, {of(247, 247), of(247, 247)}, {of(224, 254), of(192, 214, 216, 222, 224, 254)}, {of(214, 216), of(214, 216, 246, 246, 248, 248)},
		{of(913, 939), of(913, 939, 945, 961, 963, 971)}, {of(930, 930), of(930, 930)}, {of(962, 962), of(962, 962)}, {of(945, 971), of(913, 929, 931, 939, 945, 971)}, {of(961, 962), of(929, 929, 961, 962)},
		{of(1039, 1040), of(1039, 1040, 1072, 1072, 1119, 1119)}, {of(1024, 1071), of(1024, 1119)}, {of(1072, 1119), of(1024, 1119)}, {of(1103, 1104), of(1024, 1024, 1071, 1071, 1103, 1104)}, {of(1060, 1080), of(1040, 1048, 1060, 1080, 1092, 1103)},
		{of(0, top), of(0, top)}, {of(math.MinInt, math.MaxInt), of(0, top)}, {of(math.MinInt, 65), of(0, 65, 97, 97)}, {of(1119, math.MaxInt), of(1039, 1039, 1119, top)}, {of(math.MaxInt, math.MinInt), nil},
		{of(math.MaxInt, math.MaxInt, math.MinInt, math.MinInt), nil}, {of(math.MaxInt, 97, 98, math.MinInt, 66, 66), of(66, 66, 98, 98)},
	} {
		same(t, "Set", c.l, Set(c.l), c.want)
	}
}

// P6.2, P6.3: each number that may be in a pair alone, and each one left out.
func TestSetEachNumber(t *testing.T) {
	pair := paired()
	for c := -1; c <= 1300; c++ {
		o, is := pair[c]
		one := Set(of(c, c))
		switch {
		case c < 0:
			same(t, "Set", c, one, nil)
		case !is:
			same(t, "Set", c, one, of(c, c))
		default:
			same(t, "Set", c, one, of(min(c, o), min(c, o), max(c, o), max(c, o)))
		}
		// One that is left out is told by its other one, if it has one.
		want := of(0, top)
		if !is {
			want = ranges.Not(of(c, c))
		}
		same(t, "Set of all but", c, Set(of(c+1, top, 0, c-1)), want)
		if is {
			same(t, "Set of all but a pair", c, Set(ranges.Not(of(o, o, c, c))), ranges.Not(of(o, o, c, c)))
		}
	}
}

// scattered are lists of ranges, the most of them among the pairs, some wrong, the same ones each time.
func scattered(lists, most, wide int) [][]api.Range {
	state := uint64(11)
	next := func(n int) int {
		state = state*6364136223846793005 + 1442695040888963407
		return int(state >> 33 % uint64(n))
	}
	var l [][]api.Range
	for range lists {
		var one []api.Range
		for range next(most) + 1 {
			lo := next(1200) - 20
			one = append(one, api.Range{Lo: lo, Hi: lo + next(wide) - 2})
		}
		l = append(l, one)
	}
	return l
}

// P6.2: ranges from edge to edge, and lists of many, number by number.
func TestSetMany(t *testing.T) {
	lists := slices.Concat(scattered(60, 3, 200), scattered(60, 30, 12), scattered(20, 300, 3))
	for i, lo := range edges {
		hi := edges[(i*5+7)%len(edges)]
		lists = append(lists, of(lo, hi), of(lo-1, hi+1, hi, lo), of(lo+1, lo+1, hi-1, hi), of(hi, top, lo, lo))
	}
	for _, l := range lists {
		same(t, "Set", l, Set(l), folded(l))
	}
}

// P6.3: what is folded is a set, which folded again is the same, and with a number has the other one; it has no other numbers.
func TestSetLaws(t *testing.T) {
	pair := paired()
	for _, l := range slices.Concat(scattered(80, 3, 200), scattered(80, 40, 10), [][]api.Range{nil, of(0, top), of(math.MinInt, math.MaxInt), of(1119, math.MaxInt), of(65, 1119)}) {
		set := Set(l)
		if !ranges.Right(set) {
			t.Fatalf("Set(%v): %v", l, set)
		}
		same(t, "Set of Set", l, Set(set), set)
		for c := range 1300 {
			o, is := pair[c]
			in := ranges.Has(l, c) || is && ranges.Has(l, o)
			if ranges.Has(set, c) != in || is && ranges.Has(set, o) != in {
				t.Fatalf("Set(%v): %v, wrong of %d", l, set, c)
			}
		}
	}
}

// P6.2: by hand.
func TestSame(t *testing.T) {
	for _, c := range [][2]string{
		{"", ""}, {"a", "A"}, {"Z", "z"}, {"aBc[", "AbC["}, {"skip 1", "SKIP 1"}, {"\x00\n\t", "\x00\n\t"}, {"\xff\xc1", "\xff\xc1"}, {"é", "é"}, {"Éa", "ÉA"},
		{allGreat, allGreat}, {strings.Repeat("aBz", 2000), strings.Repeat("AbZ", 2000)},
	} {
		if !Same(c[0], c[1]) || !Same(c[1], c[0]) {
			t.Errorf("Same(%q, %q): false", c[0], c[1])
		}
	}
	for _, c := range [][2]string{
		{"", "a"}, {"", "\x00"}, {"a", "b"}, {"a", "B"}, {"a", "ab"}, {"AB", "a"}, {"ab", "ba"}, {"abc", "abd"}, {"abc", "xbc"}, {"abc", "axc"}, {"a", "a "}, {"a", "a\x00"},
		{"[", "{"}, {"@", "`"}, {"]", "}"}, {"\\", "|"}, {"0", "P"}, {"1", "\x11"}, {" ", "\x00"}, {"\xc1", "A"}, {"\xe1", "\xc1"}, {"\xc1", "a"},
		{"É", "é"}, {"Σ", "σ"}, {"Я", "я"}, {"\u212a", "k"}, {"\u017f", "s"}, {"é", "e"}, {allGreat, allSmall},
		{strings.Repeat("aBz", 2000) + "x", strings.Repeat("AbZ", 2000) + "y"},
	} {
		if Same(c[0], c[1]) || Same(c[1], c[0]) {
			t.Errorf("Same(%q, %q): true", c[0], c[1])
		}
	}
}

// P6.2: each two bytes, alone and behind others.
func TestSameBytes(t *testing.T) {
	const great, small = "ABCDEFGHIJKLMNOPQRSTUVWXYZ", "abcdefghijklmnopqrstuvwxyz"
	for a := range 256 {
		for b := range 256 {
			x, y := string([]byte{byte(a)}), string([]byte{byte(b)})
			i, j := strings.Index(great, x), strings.Index(great, y)
			want := a == b || i >= 0 && small[i] == byte(b) || j >= 0 && small[j] == byte(a)
			if Same(x, y) != want || Same("q"+x, "Q"+y) != want || Same(x+"q", y+"Q") != want || Same(x+"q", y) {
				t.Fatalf("Same(%q, %q): %v", x, y, !want)
			}
		}
	}
}

// P6.2: what is handed in stays, its spare room too; what is handed out is new.
func TestSetMemory(t *testing.T) {
	for _, l := range [][]api.Range{nil, of('0', '9'), of('a', 'c'), of('A', 'z'), of('x', 'y', 'A', 'C', 9, 3), of(-4, top+5), of(1024, 1119)} {
		room := append(slices.Clone(l), of(3, 3, 77, 70, -1, -1)...)
		given := room[:len(l)]
		got, other := Set(given), Set(given)
		want := slices.Clone(got)
		all := got[:cap(got)]
		for i := range all {
			all[i] = api.Range{Lo: -7, Hi: -9}
		}
		same(t, "what was handed in", l, given, l)
		same(t, "its spare room", l, room[len(l):], of(3, 3, 77, 70, -1, -1))
		same(t, "what else was told", l, other, want)
		same(t, "a later call", l, Set(given), want)
	}
}

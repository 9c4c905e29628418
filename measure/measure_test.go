package measure

import (
	"math"
	"slices"
	"strings"
	"testing"

	"spool/api"
	"spool/arena"
	"spool/deriv"
	"spool/ranges"
)

// most is what Most tells, -1 where that is false.
func most(t *testing.T, u api.Tree) int {
	t.Helper()
	n, ok := Most(u)
	if ok && n < 0 || !ok && n != 0 {
		t.Errorf("Most of a tree of %d nodes: %d, %v", len(u.Nodes), n, ok)
	}
	if !ok {
		return -1
	}
	return n
}

// measured fails where something isn't told so of a tree.
func measured(t *testing.T, what any, u api.Tree, least, longest, need int, starts []api.Range) {
	t.Helper()
	if n := Least(u); n != least {
		t.Errorf("Least of %v: %d, not %d", what, n, least)
	}
	if n := most(t, u); n != longest {
		t.Errorf("Most of %v: %d, not %d", what, n, longest)
	}
	if n := Need(u); n != need {
		t.Errorf("Need of %v: %d, not %d", what, n, need)
	}
	if l := Starts(u); !slices.Equal(l, starts) {
		t.Errorf("Starts of %v: %v, not %v", what, l, starts)
	}
}

const nothing = `[^\u{0}-\u{10ffff}]`

// P16.1, P16.2: expressions of all kinds, by hand.
func TestByHand(t *testing.T) {
	a := of('a', 'a')
	for _, x := range []struct {
		s                 string
		least, most, need int
		starts            []api.Range
	}{
		{"a{2,3}é?", 2, 5, 7, a},
		{"", 0, 0, 0, nil},
		{"()", 0, 0, 0, nil},
		{"a", 1, 1, 1, a},
		{"abc", 3, 3, 3, a},
		{"a(bc)", 3, 3, 3, a},
		{"a|b", 1, 1, 3, of('a', 'b')},
		{"b|a|", 0, 1, 4, of('a', 'b')},
		{"ab|c", 1, 2, 4, of('a', 'a', 'c', 'c')},
		{"c|ab", 1, 2, 4, of('a', 'a', 'c', 'c')},
		{"a?", 0, 1, 2, a},
		{"a*", 0, -1, 2, a},
		{"a+", 1, -1, 3, a},
		{"a{0}", 0, 0, 0, nil},
		{"a{1}", 1, 1, 1, a},
		{"a{2}", 2, 2, 2, a},
		{"a{2,4}", 2, 4, 6, a},
		{"a{0,3}", 0, 3, 6, a},
		{"a{3,}", 3, -1, 5, a},
		{"a{255}", 255, 255, 255, a},
		{"a{255,}", 255, -1, 257, a},
		{"a{0,255}", 0, 255, 510, a},
		{"(ab){2,3}", 4, 6, 7, a},
		{"(ab|c){3}", 3, 6, 12, of('a', 'a', 'c', 'c')},
		{"(ab|c){1,2}", 1, 4, 9, of('a', 'a', 'c', 'c')},
		{"(a{2}){3}", 6, 6, 6, a},
		{"(a{2,3}){2,3}", 4, 9, 13, a},
		{"(a*)*", 0, -1, 3, a},
		{"(a*)?", 0, -1, 3, a},
		{"(a*){0}", 0, 0, 0, nil},
		{"(a*){2}", 0, -1, 4, a},
		{"(a*){0}b", 1, 1, 1, of('b', 'b')},
		{"a{0}b*", 0, -1, 2, of('b', 'b')},
		{"()*", 0, 0, 1, nil},
		{"()+", 0, 0, 1, nil},
		{"(){2,5}", 0, 0, 3, nil},
		{"(){0,255}", 0, 0, 255, nil},
		{"(()|a{0})*", 0, 0, 2, nil},
		{"(a{0})*b", 1, 1, 2, of('b', 'b')},
		{"a?b", 1, 2, 3, of('a', 'b')},
		{"a?b?c?", 0, 3, 6, of('a', 'c')},
		{"(a|b)?c|d*e", 1, -1, 9, of('a', 'e')},
		{"ab?", 1, 2, 3, a},
		{"ab*", 1, -1, 3, a},
		{"b*a", 1, -1, 3, of('a', 'b')},
		{"a*b*", 0, -1, 4, of('a', 'b')},
		{"a*|b", 0, -1, 4, of('a', 'b')},
		{"a|b*", 0, -1, 4, of('a', 'b')},
		{"(a?b){2}", 2, 4, 6, of('a', 'b')},
		{"é", 2, 2, 2, of(233, 233)},
		{"\u20ac", 3, 3, 3, of(0x20ac, 0x20ac)},
		{"\U0001f600", 4, 4, 4, of(0x1f600, 0x1f600)},
		{"[a-zé]", 1, 2, 4, of('a', 'z', 233, 233)},
		{"[é\u20ac]b", 3, 4, 7, of(233, 233, 0x20ac, 0x20ac)},
		{"\u20ac|\U0001f600|a", 1, 4, 10, of('a', 'a', 0x20ac, 0x20ac, 0x1f600, 0x1f600)},
		{`[\u{80}-\u{7ff}]`, 2, 2, 2, of(128, 2047)},
		{`[\u{800}-\u{fff}]`, 3, 3, 3, of(0x800, 0xfff)},
		{`[\u{7f}-\u{80}]`, 1, 2, 4, of(127, 128)},
		{`[\u{0}-\u{10ffff}]`, 1, 4, 28, of(0, 0xd7ff, 0xe000, top)},
		{`[^\n]{2}`, 2, 8, 58, of(0, 9, 11, 0xd7ff, 0xe000, top)},
		{`[\u{d800}-\u{dfff}]`, -1, -1, 1, nil},
		{`[\u{d800}]?a`, 1, 1, 3, a},
		{`[\u{d7ff}-\u{e000}]`, 3, 3, 7, of(0xd7ff, 0xd7ff, 0xe000, 0xe000)},
		{`[a\u{dfff}]`, 1, 1, 1, a},
		{`[\u{d800}\u{10000}]`, 4, 4, 4, of(0x10000, 0x10000)},
		{nothing, -1, -1, 1, nil},
		{nothing + "*", 0, 0, 2, nil},
		{nothing + "?", 0, 0, 2, nil},
		{nothing + "{0}", 0, 0, 0, nil},
		{nothing + "{0,3}", 0, 0, 6, nil},
		{nothing + "+", -1, -1, 3, nil},
		{nothing + "{2,3}", -1, -1, 4, nil},
		{"a" + nothing, -1, -1, 2, nil},
		{nothing + "a", -1, -1, 2, nil},
		{"a*" + nothing, -1, -1, 3, nil},
		{nothing + "a*", -1, -1, 3, nil},
		{nothing + "|a", 1, 1, 3, a},
		{"a|" + nothing, 1, 1, 3, a},
		{nothing + "|a*", 0, -1, 4, a},
		{"a*|" + nothing, 0, -1, 4, a},
		{nothing + "|" + nothing, -1, -1, 3, nil},
		{"a" + nothing + "|b", 1, 1, 4, of('b', 'b')},
		{"(a" + nothing + ")*b", 1, 1, 4, of('b', 'b')},
		{"a" + nothing + "?", 1, 1, 3, a},
		{nothing + "?a", 1, 1, 3, a},
		{"(" + nothing + "|a){2}", 2, 2, 6, a},
		{"(a" + nothing + "|bc)?d", 1, 3, 7, of('b', 'b', 'd', 'd')},
		{`a[\u{d800}]|b`, 1, 1, 4, of('b', 'b')},
		{"(a{255}){255}", 65025, 65025, 65025, a},
		{"((a{255}){255}){16}", 1040400, 1040400, 1040400, a},
		{"((a{255}){255}){17}", 1 << 20, 1 << 20, 1 << 20, a},
		{"((a{255}){255}){255}", 1 << 20, 1 << 20, 1 << 20, a},
		{"((((a{255}){255}){255}){255}){0}b", 1, 1, 1, of('b', 'b')},
		{"(((a{255}){255}){255}|b){2}", 2, 1 << 20, 1 << 20, of('a', 'b')},
		{"((a{0,255}){0,255}){0,255}", 0, 1 << 20, 1 << 20, a},
		{"((a{255}){255}){255}b*", 1 << 20, -1, 1 << 20, a},
	} {
		u := parsed(t, x.s)
		measured(t, x.s, u, x.least, x.most, x.need, x.starts)
	}
}

// bad are trees that may not be.
func bad() []api.Tree {
	one := api.Node{Op: api.Empty}
	l := []api.Tree{{}, {Sets: [][]api.Range{nil}}, {Nodes: make([]api.Node, 1)}}
	for _, n := range []api.Node{
		{}, {Op: -1}, {Op: 6}, {Op: math.MaxInt}, {Op: api.Set}, {Op: api.Set, Set: -1}, {Op: api.Set, Set: math.MaxInt}, {Op: api.Empty, A: 1}, {Op: api.Cat, A: 0, B: 1}, {Op: api.Cat, A: -1}, {Op: api.Alt, A: 1}, {Op: api.Alt, B: math.MaxInt}, {Op: api.Alt, B: math.MinInt}, {Op: api.Rep, A: 1, Hi: -1}, {Op: api.Rep, Lo: 2, Hi: 1}, {Op: api.Rep, Hi: 256}, {Op: api.Rep, Lo: 256, Hi: -1}, {Op: api.Rep, Hi: -2}, {Op: api.Rep, Lo: -1}, {Op: api.Rep, B: 1}, {Op: api.Rep, Lo: math.MinInt, Hi: math.MaxInt},
	} {
		l = append(l, api.Tree{Nodes: []api.Node{one, n}}, api.Tree{Nodes: []api.Node{one, n}, Root: 1})
	}
	set := []api.Node{{Op: api.Set}}
	for _, r := range [][]api.Range{of('b', 'a'), of('a', 'a', 'b', 'b'), of(-1, 3), of(3, top+1), of('c', 'c', 'a', 'a'), of(math.MinInt, math.MaxInt)} {
		l = append(l, api.Tree{Nodes: set, Sets: [][]api.Range{r}}, api.Tree{Nodes: append(slices.Clone(set), one), Root: 1, Sets: [][]api.Range{of('a', 'a'), r}})
	}
	for _, root := range []int{1, -1, math.MaxInt, math.MinInt} {
		l = append(l, api.Tree{Nodes: set, Sets: [][]api.Range{of('a', 'a')}, Root: root})
	}
	many := slices.Repeat(set, api.MaxNodes+1)
	return append(l, api.Tree{Nodes: many, Sets: [][]api.Range{of('a', 'a')}}, api.Tree{Nodes: set, Sets: slices.Repeat([][]api.Range{of('a', 'a')}, api.MaxNodes+1)})
}

// P16.1, P16.2: of trees that may not be nothing is told.
func TestMayNotBe(t *testing.T) {
	for i, u := range bad() {
		measured(t, i, u, -1, -1, 0, nil)
	}
}

// P16.1, P16.2: sets of one code point, and of two numbers that stand side by side, at each edge.
func TestSets(t *testing.T) {
	length := func(c int) int {
		if c >= 0xd800 && c <= 0xdfff {
			return 0
		}
		return len(string(rune(c)))
	}
	one := func(l []api.Range) api.Tree {
		return api.Tree{Nodes: []api.Node{{Op: api.Set}}, Sets: [][]api.Range{l}}
	}
	for _, c := range edges() {
		n, l := length(c), of(c, c)
		if n == 0 {
			measured(t, l, one(l), -1, -1, 1, nil)
		} else {
			measured(t, l, one(l), n, n, n, l)
		}
		for _, d := range edges() {
			m := length(d)
			if d <= c || n == 0 || m == 0 {
				continue
			}
			l := ranges.Of(of(c, c, d, d)...)
			measured(t, l, one(l), n, m, cut(modelNeed(one(l), 0)), l)
		}
	}
}

// held fails where something isn't told of a tree as the model tells it.
func held(t *testing.T, u api.Tree) {
	t.Helper()
	l := modelLengths(u)
	least, longest := -1, -1
	if all := l.known(); len(all) > 0 {
		least, longest = all[0], all[len(all)-1]
	}
	if n := Least(u); n != least && (least >= 0 || !l.over || n <= maxKnown) {
		t.Fatalf("Least of %v: %d, not %d", u, n, least)
	}
	if n := most(t, u); !l.over && n != longest || l.over && n != -1 && n <= maxKnown {
		t.Fatalf("Most of %v: %d, not %d, %v", u, n, longest, l.over)
	}
	if n := Need(u); n != cut(modelNeed(u, u.Root)) {
		t.Fatalf("Need of %v: %d, not %v", u, n, modelNeed(u, u.Root))
	}
	unbounded(t, u)
}

// unbounded fails where a longest text is told, though times without a bound make a longer one than many times do.
func unbounded(t *testing.T, u api.Tree) {
	t.Helper()
	n := most(t, u)
	if n == -1 {
		return
	}
	bound := copied(u)
	for i := range bound.Nodes {
		if bound.Nodes[i].Hi == -1 {
			bound.Nodes[i].Hi = api.MaxRep
		}
	}
	if m := most(t, bound); m != n {
		t.Fatalf("Most of %v: %d, with a bound %d", u, n, m)
	}
}

// started fails where a code point isn't told as one that a tree's texts begin with, though something is left of it, or is, though nothing is.
func started(t *testing.T, u api.Tree, all []int) {
	t.Helper()
	starts := Starts(u)
	if !ranges.Right(starts) {
		t.Fatalf("Starts of %v: %v", u, starts)
	}
	for _, c := range all {
		rest, e := deriv.Left(u, c)
		if e != api.OK {
			t.Fatalf("Left of %v, %d: %d", u, c, e)
		}
		want := modelLengths(rest).some() && (c < 0xd800 || c > 0xdfff)
		if ranges.Has(starts, c) != want {
			t.Fatalf("Starts of %v: %v; of %d: %v", u, starts, c, !want)
		}
	}
}

// P16.1, P16.2: all small trees.
func TestAllSmall(t *testing.T) {
	seen := 0
	u := api.Tree{Sets: [][]api.Range{of('a', 'a'), of(0xe9, 0xe9, 0xd800, 0xd800), nil}}
	leaves := []api.Node{{Op: api.Empty}, {Op: api.Set}, {Op: api.Set, Set: 1}, {Op: api.Set, Set: 2}}
	times := [][2]int{{0, -1}, {1, -1}, {2, -1}, {0, 0}, {0, 1}, {1, 1}, {0, 2}, {1, 2}, {2, 2}, {2, 3}}
	all := []int{'a', 'b', 0xe9, 0xd800}
	every(u, 3, leaves, times, func(u api.Tree) {
		seen++
		held(t, u)
		started(t, u, all)
	})
	every(u, 4, leaves[:2], [][2]int{{0, -1}, {0, 0}, {2, 3}}, func(u api.Tree) {
		seen++
		held(t, u)
		started(t, u, all)
	})
	if seen < 5000 {
		t.Errorf("only %d trees", seen)
	}
}

// P16.1, P16.2: many greater trees.
func TestManyTrees(t *testing.T) {
	s := source(16)
	none, endless, some := 0, 0, 0
	for i := range 3000 {
		u := s.tree(3+i%18, 1+i%4)
		held(t, u)
		started(t, u, edges()[i%7:i%7+5])
		switch {
		case Least(u) == -1:
			none++
		case most(t, u) == -1:
			endless++
		default:
			some++
		}
	}
	if none < 200 || endless < 200 || some < 200 {
		t.Errorf("%d trees without a text, %d without a longest one, %d others", none, endless, some)
	}
}

// P16.2: each number that a tree's texts may begin with, and each other one.
func TestStarts(t *testing.T) {
	s := source(17)
	for i := range 200 {
		started(t, s.tree(3+i%12, 2), edges())
	}
}

// P16.3: no text that a tree has is shorter, or longer, or begins otherwise.
func TestTexts(t *testing.T) {
	s := source(18)
	yes := 0
	for i := range 3000 {
		u := s.tree(3+i%16, 1+i%3)
		least, longest, starts := Least(u), most(t, u), Starts(u)
		for range 12 {
			text := s.text(s.below(6), "a", "b", "a", "\u00e9", "\u20ac", "\U0001f600", "\x7f")
			is, e := deriv.Matches(u, text)
			if e != api.OK || !is {
				continue
			}
			yes++
			if len(text) < least || least < 0 || longest >= 0 && len(text) > longest {
				t.Fatalf("%v has %q: Least %d, Most %d", u, text, least, longest)
			}
			for _, c := range text {
				if !ranges.Has(starts, int(c)) {
					t.Fatalf("%v has %q: Starts %v", u, text, starts)
				}
				break
			}
		}
	}
	if yes < 3000 {
		t.Errorf("only %d texts are had", yes)
	}
}

// sums is a tree of a so many times, by sums of powers of two.
func sums(n int, join func(b *arena.Builder, x, y int) int) api.Tree {
	return built(func(b *arena.Builder) {
		power, all := b.Set(of('a', 'a')), -1
		for ; n > 0; n /= 2 {
			if n%2 == 1 && all < 0 {
				all = power
			} else if n%2 == 1 {
				all = b.Cat(all, power)
			}
			power = join(b, power, power)
		}
		b.Rep(all, 1, 1)
	})
}

// P16.1, P16.2: at most 2^20 are counted, at each node.
func TestCounted(t *testing.T) {
	cat := func(b *arena.Builder, x, y int) int { return b.Cat(x, y) }
	for n, want := range map[int]int{1: 1, 1000: 1000, 1<<20 - 1: 1<<20 - 1, 1 << 20: 1 << 20, 1<<20 + 1: 1 << 20, 3 << 19: 1 << 20, 1 << 30: 1 << 20} {
		measured(t, n, sums(n, cat), want, want, want, of('a', 'a'))
	}
	twice := func(b *arena.Builder, last int) int { return b.Cat(last, last) }
	either := func(b *arena.Builder, last int) int { return b.Alt(last, last) }
	for n, want := range map[int][2]int{19: {1 << 19, 1<<20 - 1}, 20: {1 << 20, 1 << 20}, 21: {1 << 20, 1 << 20}, 64: {1 << 20, 1 << 20}, 4095: {1 << 20, 1 << 20}} {
		measured(t, n, chain(n, twice), want[0], want[0], want[0], of('a', 'a'))
		measured(t, n, chain(n, either), 1, 1, want[1], of('a', 'a'))
	}
	for _, n := range []int{3, 8, 500, 4095} {
		measured(t, n, chain(n, func(b *arena.Builder, last int) int { return b.Rep(last, 255, 255) }), 1<<20, 1<<20, 1<<20, of('a', 'a'))
		measured(t, n, chain(n, func(b *arena.Builder, last int) int { return b.Rep(last, 0, 255) }), 0, 1<<20, 1<<20, of('a', 'a'))
		measured(t, n, chain(n, func(b *arena.Builder, last int) int { return b.Rep(last, 255, -1) }), 1<<20, -1, 1<<20, of('a', 'a'))
	}
	// What was cut is still less than nothing, or more than what has no end.
	u := chain(64, twice)
	u.Sets = append(u.Sets, nil)
	last := len(u.Nodes) - 1
	u.Nodes = append(u.Nodes, api.Node{Op: api.Set, Set: 1}, api.Node{Op: api.Cat, A: last, B: last + 1}, api.Node{Op: api.Rep, A: last, Hi: -1}, api.Node{Op: api.Alt, A: last + 2, B: last + 3}, api.Node{Op: api.Rep, A: last + 4})
	for k, want := range [][4]int{{1 << 20, 1 << 20, 1 << 20, 1}, {-1, -1, 1, 0}, {-1, -1, 1 << 20, 0}, {0, -1, 1 << 20, 1}, {0, -1, 1 << 20, 1}, {0, 0, 0, 0}} {
		u.Root = last + k
		measured(t, k, u, want[0], want[1], want[2], of('a', 'a')[:want[3]])
	}
}

// P16.1, P16.2: sets of many ranges, in many nodes; at most 2^20 are counted of one alone.
func TestGreatSets(t *testing.T) {
	for n, want := range map[int]int{1000: 4001, 262143: 1<<20 - 3, 262144: 1 << 20} {
		var l []api.Range
		for i := range n {
			l = append(l, api.Range{Lo: 0x10000 + 2*i, Hi: 0x10000 + 2*i})
		}
		u := api.Tree{Nodes: slices.Repeat([]api.Node{{Op: api.Set}}, 4000), Sets: [][]api.Range{l}}
		u.Nodes = append(u.Nodes, api.Node{Op: api.Alt, A: 0, B: 3999}, api.Node{Op: api.Rep, A: 4000})
		u.Root = 4000
		measured(t, n, u, 4, 4, min(2*want+1, 1<<20), l)
		u.Root = 3999
		if need := Need(u); need != want {
			t.Errorf("Need of a set of %d ranges: %d, not %d", n, need, want)
		}
	}
}

// P16.1, P16.2: trees of as many nodes as may be.
func TestDeep(t *testing.T) {
	row := chain(4095, func(b *arena.Builder, last int) int { return b.Cat(last, 0) })
	measured(t, "row", row, 4096, 4096, 4096, of('a', 'a'))
	row = chain(4095, func(b *arena.Builder, last int) int { return b.Cat(0, last) })
	measured(t, "row", row, 4096, 4096, 4096, of('a', 'a'))
	measured(t, "star", chain(4095, func(b *arena.Builder, last int) int { return b.Rep(last, 0, -1) }), 0, -1, 4096, of('a', 'a'))
	measured(t, "once", chain(4095, func(b *arena.Builder, last int) int { return b.Rep(last, 1, 1) }), 1, 1, 1, of('a', 'a'))
	measured(t, "none", chain(4095, func(b *arena.Builder, last int) int { return b.Rep(last, 0, 0) }), 0, 0, 0, nil)
	var want []api.Range
	u := built(func(b *arena.Builder) {
		last := b.Empty()
		for i := range 1365 {
			c := 'a' + 3*i
			want = append(want, api.Range{Lo: c, Hi: c})
			last = b.Cat(b.Rep(b.Set(of(c, c)), 0, 1), last)
		}
	})
	if l := Starts(u); !slices.Equal(l, want) || len(u.Nodes) != 4096 {
		t.Errorf("Starts of %d nodes: %d ranges, not %d", len(u.Nodes), len(l), len(want))
	}
	s := strings.Repeat("[\u00e9\u20ac]", 500)
	measured(t, "many sets", parsed(t, s), 1000, 1500, 3000, of(0xe9, 0xe9, 0x20ac, 0x20ac))
}

// P16.1, P16.2: nodes and sets beside the Root's parts count for nothing.
func TestBeside(t *testing.T) {
	u := parsed(t, "x*y|z{3}|"+nothing)
	all := len(u.Nodes)
	for root, n := range u.Nodes {
		one := api.Tree{Nodes: slices.Clone(u.Nodes[:root+1]), Sets: u.Sets, Root: root}
		u.Root = root
		if Least(u) != Least(one) || most(t, u) != most(t, one) || Need(u) != Need(one) || !slices.Equal(Starts(u), Starts(one)) {
			t.Errorf("the node %d of %d, %v, is measured otherwise with those behind it", root, all, n)
		}
	}
	u.Nodes = append(u.Nodes, api.Node{Op: api.Empty})
	u.Root = all
	measured(t, "Empty", u, 0, 0, 0, nil)
}

// P16.1, P16.2: what is handed in is left as it is, its spare room too; what is handed out is new, and the same each time.
func TestMemory(t *testing.T) {
	for _, s := range []string{"a{2,3}\u00e9?", "[a-c]?[x-z]", "[a-z]", `[\u{d000}-\u{e000}]*b`, ".", "(a|b)*[^c]", nothing, ""} {
		u := parsed(t, s)
		u.Nodes = append(u.Nodes, api.Node{Op: 99})[:len(u.Nodes)]
		for i, l := range u.Sets {
			u.Sets[i] = append(slices.Clone(l), api.Range{Lo: 99, Hi: 98})[:len(l)]
		}
		u.Sets = append(u.Sets, of(99, 98))[:len(u.Sets)]
		nodes, sets := slices.Clone(u.Nodes[:cap(u.Nodes)]), slices.Clone(u.Sets[:cap(u.Sets)])
		for i, l := range sets {
			sets[i] = slices.Clone(l[:cap(l)])
		}
		first := Starts(u)
		kept := slices.Clone(first)
		for range 2 {
			Least(u)
			Most(u)
			Need(u)
			again := Starts(u)
			if !slices.Equal(again, kept) {
				t.Errorf("Starts of %q: %v, and then %v", s, kept, again)
			}
			// What was told is the caller's, to the end of its room.
			for i := range again[:cap(again)] {
				again[:cap(again)][i] = api.Range{Lo: 77, Hi: 76}
			}
		}
		if !slices.Equal(first, kept) {
			t.Errorf("Starts of %q was changed", s)
		}
		if !slices.Equal(u.Nodes[:cap(u.Nodes)], nodes) {
			t.Errorf("%q: nodes were changed", s)
		}
		for i, l := range u.Sets[:cap(u.Sets)] {
			if !slices.Equal(l[:cap(l)], sets[i]) {
				t.Errorf("%q: the set %d was changed", s, i)
			}
		}
	}
}

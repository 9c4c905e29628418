package deriv

import (
	"math"
	"slices"
	"strings"
	"testing"

	"spool/api"
	"spool/arena"
)

// matches fails where it isn't told so whether a tree has a text.
func matches(t *testing.T, u api.Tree, text string, want bool) {
	t.Helper()
	if is, e := Matches(u, text); is != want || e != api.OK {
		t.Errorf("a tree of %d nodes has %.60q: %v, %d, not %v", len(u.Nodes), text, is, e, want)
	}
}

// left tells what is left of a tree, and fails where that isn't told, or may not be.
func left(t *testing.T, u api.Tree, c int) api.Tree {
	t.Helper()
	l, e := Left(u, c)
	if e != api.OK || arena.Check(l) != api.OK {
		t.Fatalf("what is left of a tree of %d nodes behind %d: %d nodes, %d", len(u.Nodes), c, len(l.Nodes), e)
	}
	return l
}

// empties tells whether a tree is a Set of nothing alone.
func empties(u api.Tree) bool {
	return len(u.Nodes) == 1 && u.Nodes[0] == api.Node{Op: api.Set} && u.Root == 0 && len(u.Sets) == 1 && len(u.Sets[0]) == 0
}

// byHand are expressions, texts that they have, and others.
func byHand() []struct {
	s       string
	yes, no []string
} {
	return []struct {
		s       string
		yes, no []string
	}{
		{"a*b", []string{"b", "ab", "aab", "aaaaaaab"}, []string{"", "a", "aa", "ba", "abb", "bb", "aabc"}},
		{"", []string{""}, []string{"a", " ", "\x00"}},
		{"a", []string{"a"}, []string{"", "b", "aa", "A"}},
		{"abc", []string{"abc"}, []string{"", "a", "ab", "abcd", "bc", "acb"}},
		{"a(bc)", []string{"abc"}, []string{"", "a", "ab", "bc", "abcbc"}},
		{"(ab)c", []string{"abc"}, []string{"", "c", "ab", "ababc"}},
		{"a|b", []string{"a", "b"}, []string{"", "ab", "ba", "c"}},
		{"a|", []string{"", "a"}, []string{"aa", "b"}},
		{"|a|aa", []string{"", "a", "aa"}, []string{"aaa"}},
		{"(a|ab)(c|bcd)", []string{"ac", "abc", "abcd", "abbcd"}, []string{"", "a", "ab", "abcbcd", "abbc"}},
		{"a?b?c?", []string{"", "a", "b", "c", "ab", "ac", "bc", "abc"}, []string{"ba", "ca", "cb", "aa", "abcc"}},
		{"a*", []string{"", "a", "aa", "aaaaa"}, []string{"b", "ab", "ba"}},
		{"a+", []string{"a", "aa", "aaaaa"}, []string{"", "b", "ab"}},
		{"a{0}", []string{""}, []string{"a"}},
		{"(ab){0}c", []string{"c"}, []string{"", "abc"}},
		{"a{1}", []string{"a"}, []string{"", "aa"}},
		{"a{2}", []string{"aa"}, []string{"", "a", "aaa", "aaaa"}},
		{"a{2,3}", []string{"aa", "aaa"}, []string{"", "a", "aaaa"}},
		{"a{2,}", []string{"aa", "aaa", "aaaaaaa"}, []string{"", "a"}},
		{"a{0,2}b", []string{"b", "ab", "aab"}, []string{"", "aaab", "a"}},
		{"(ab|c){2}", []string{"abab", "abc", "cab", "cc"}, []string{"", "ab", "c", "ababab", "ccc", "aab"}},
		{"(a?){3}", []string{"", "a", "aa", "aaa"}, []string{"aaaa"}},
		{"(a?b?){2}", []string{"", "ba", "ab", "abab", "bb", "aa", "bab"}, []string{"bba", "aabb", "ababa", "baba"}},
		{"(a?){2,}", []string{"", "a", "aa", "aaaaaaaa"}, []string{"b"}},
		{"(a*)*", []string{"", "a", "aaaa"}, []string{"b", "ab"}},
		{"(a*){2,3}", []string{"", "a", "aaaa"}, []string{"b"}},
		{"(a+){2,3}", []string{"aa", "aaaaa"}, []string{"", "a"}},
		{"(a*b*)*", []string{"", "ab", "ba", "abba"}, []string{"c", "abc"}},
		{"(a{2}){2,3}", []string{"aaaa", "aaaaaa"}, []string{"", "aa", "aaa", "aaaaa", "aaaaaaaa"}},
		{"(a{2,3}){2}", []string{"aaaa", "aaaaa", "aaaaaa"}, []string{"aaa", "aaaaaaa"}},
		{"(a|b)*abb", []string{"abb", "aabb", "babb", "abbabb"}, []string{"", "ab", "abba", "abbb"}},
		{"(a|b)*a(a|b){2}", []string{"aaa", "baab", "ababb", "bbabb"}, []string{"", "aa", "babbb", "bbb"}},
		{"()", []string{""}, []string{"a"}},
		{"()*", []string{""}, []string{"a"}},
		{"(|a)+", []string{"", "a", "aa"}, []string{"b"}},
		{`[^\u{0}-\u{10ffff}]`, nil, []string{"", "a"}},
		{`[^\u{0}-\u{10ffff}]*`, []string{""}, []string{"a"}},
		{`[^\u{0}-\u{10ffff}]+`, nil, []string{"", "a"}},
		{`a[^\u{0}-\u{10ffff}]|b`, []string{"b"}, []string{"", "a", "ab"}},
		{`a[^\u{0}-\u{10ffff}]?`, []string{"a"}, []string{"", "aa"}},
		{".", []string{"a", "é", "\u20ac", "\U0001f600", "\x00", "\U0010ffff", "\ufffd"}, []string{"", "\n", "ab", "éé", "\xc3", "\xff"}},
		{"é{2}", []string{"éé"}, []string{"é", "\xc3\xa9", "e\u0301e\u0301"}},
		{"[à-ÿ]+x", []string{"éx", "éàÿx"}, []string{"x", "éÀx", "é"}},
		{"\u20ac|\U0001f600", []string{"\u20ac", "\U0001f600"}, []string{"", "\u20ac\U0001f600", "\u20ad", "\U0001f601"}},
	}
}

// P15.1, P15.2, P15.3: expressions of all kinds, by hand.
func TestByHand(t *testing.T) {
	for _, x := range byHand() {
		u := parsed(t, x.s)
		if is := Nullable(u); is != slices.Contains(x.yes, "") {
			t.Errorf("Nullable of %q: %v", x.s, is)
		}
		for _, text := range x.yes {
			matches(t, u, text, true)
			if !model(u, text) {
				t.Errorf("the model tells that %q has no %q", x.s, text)
			}
			oneByOne(t, u, text, true)
		}
		for _, text := range x.no {
			matches(t, u, text, false)
			oneByOne(t, u, text, false)
		}
	}
}

// oneByOne fails where what is left, code point by code point, isn't told so that a tree has a text, or hasn't; a text that is wrong is left away.
func oneByOne(t *testing.T, u api.Tree, text string, want bool) {
	t.Helper()
	for _, c := range text {
		if c == '\ufffd' && !want {
			return
		}
		u = left(t, u, int(c))
	}
	if Nullable(u) != want {
		t.Errorf("what is left behind %q has the empty row: %v", text, !want)
	}
}

// P15.2: what is left, by hand: the texts of up to five letters that it has.
func TestLeft(t *testing.T) {
	for _, x := range []struct {
		s    string
		c    int
		want string
	}{
		{"a*b", 'b', ""}, {"a*b", 'a', "a*b"}, {"a*b|ac", 'a', "a*b|c"}, {"abc", 'a', "bc"}, {"(ab)(ca)", 'a', "b(ca)"}, {"a|b", 'a', ""}, {"ab|ac", 'a', "b|c"}, {"a?b", 'a', "b"}, {"a?b", 'b', ""}, {"a?a", 'a', "a|"}, {"a{3}", 'a', "a{2}"}, {"a{2,3}", 'a', "a{1,2}"}, {"a{1,2}", 'a', "a?"}, {"a{2,}", 'a', "a+"}, {"a+", 'a', "a*"}, {"(ab)*", 'a', "b(ab)*"}, {"(ab|b){2}", 'b', "ab|b"}, {"(a?b?){2}", 'b', "a?b?"}, {"(a?b?){2}", 'a', "b?a?b?"}, {"(a*b)*c", 'a', "a*b(a*b)*c"}, {"[ab]c", 'a', "c"}, {".a", 'é', "a"},
	} {
		u, want := left(t, parsed(t, x.s), x.c), parsed(t, x.want)
		for _, s := range texts(5, "a", "b", "c") {
			matches(t, u, s, model(want, s))
		}
	}
}

// P15.2: where nothing is left, a Set of nothing is told, whatever number it is.
func TestNothingLeft(t *testing.T) {
	for _, s := range []string{"", "a", "ab", "(a|b)c", "a*", "(a?b){2,}", "a{0}", "x{0}a", `[^\u{0}-\u{10ffff}]`, `[^\u{0}-\u{10ffff}]*`, `x[^\u{0}-\u{10ffff}]`, `(x|xy*)[^\u{0}-\u{10ffff}]{2}y`} {
		for _, c := range []int{'x', '`', 0, 127, 128, 233, 0xd7ff, 0xd800, 0xdfff, 0xe000, 0xfffd, 0xffff, 0x10000, top, top + 1, top + 1 + 'a', -1, -'a', 1<<32 + 'a', math.MinInt, math.MinInt + 'a', math.MaxInt} {
			if l := left(t, parsed(t, s), c); !empties(l) {
				t.Errorf("what is left of %q behind %d: %v", s, c, l)
			}
		}
	}
	every0 := parsed(t, `[\u{0}-\u{10ffff}]*`)
	for _, c := range []int{-1, math.MinInt, top + 1, math.MaxInt, 1 << 32} {
		if l := left(t, every0, c); !empties(l) {
			t.Errorf("what is left behind %d, which no set has: %v", c, l)
		}
	}
}

// P15.1, P15.2: numbers at each edge of sets; Left's may be none of code points, too, Matches' not.
func TestSets(t *testing.T) {
	edges := []int{0, 1, 9, 10, 'a' - 1, 'a', 'b', 'c', 'd', 127, 128, 0x7ff, 0x800, 0xd7ff, 0xd800, 0xdbff, 0xdc00, 0xdfff, 0xe000, 0xfffc, 0xfffd, 0xfffe, 0xffff, 0x10000, 0x10001, top - 1, top}
	for _, l := range [][]api.Range{nil, of('a', 'a'), of('a', 'c'), of(0, 0), of(top, top), of(0, top), of(0, 'a', 'c', 0x7ff, 0xffff, 0x10000), of(0x800, 0xd7ff, 0xe000, 0xfffc), of(0xd800, 0xdfff), of(0xd800, 0xd800, 0xfffd, 0xfffd), of(0xdfff, 0xe000), of(0, 0xd7ff, 0xe000, top), of(127, 127, 0xfffe, top-1)} {
		u := built(func(b *arena.Builder) { b.Cat(b.Rep(b.Set(l), 2, 2), b.Set(of('z', 'z'))) })
		for _, c := range edges {
			in := slices.ContainsFunc(l, func(r api.Range) bool { return r.Lo <= c && c <= r.Hi })
			scalar := c < 0xd800 || c > 0xdfff
			if scalar {
				s := string(rune(c))
				matches(t, u, s+s+"z", in)
				matches(t, u, s+"z", false)
			}
			last := left(t, left(t, left(t, u, c), c), 'z')
			if Nullable(last) != in || empties(last) == in {
				t.Errorf("what is left of %v twice, and z, behind %d: %v", l, c, last)
			}
		}
	}
}

// P15.1: a text that is not Valid is had by no tree, whatever that has.
func TestWrongTexts(t *testing.T) {
	all := []api.Tree{parsed(t, `[\u{0}-\u{10ffff}]*`), parsed(t, `[\u{0}-\u{10ffff}]`), parsed(t, `(.|\n){0,9}`), parsed(t, "[\\u{fffd}\\u{c0}-\\u{ff}]*"), parsed(t, "a*"), parsed(t, "")}
	for _, s := range []string{"\x80", "\xbf", "\xc0", "\xff", "\xc3", "a\xff", "\xffa", "aa\xc3", "\xc3a", "é\xa9", "\xc0\x80", "\xc1\xbf", "\xe0\x80\x80", "\xe0\x9f\xbf", "\xe2\x82", "\xed\xa0\x80", "\xed\xbf\xbf", "\xf0\x80\x80\x80", "\xf0\x8f\xbf\xbf", "\xf0\x9f\x98", "\xf4\x90\x80\x80", "\xf5\x80\x80\x80", "\xf8\x88\x80\x80\x80", "a\ufffd\xef\xbf"} {
		for _, u := range all {
			matches(t, u, s, false)
		}
	}
	// Nothing has to be reckoned for that.
	matches(t, tooMany(), strings.Repeat("a", 5000)+"\xff", false)
	// What is written in place of wrong bytes is a code point as well.
	matches(t, all[0], "a\ufffd\U0010ffff\x00", true)
	matches(t, all[3], "\ufffd\u00ff\u00c0", true)
}

// tooMany is a tree of which more parts come than may, when texts of a are long.
func tooMany() api.Tree {
	return chain(letter, 9, func(b *arena.Builder, last int) int { return b.Rep(last, 0, 255) })
}

// bad are trees that may not be, with the error of each.
func bad() map[api.Errno][]api.Tree {
	one := api.Node{Op: api.Empty}
	var l []api.Tree
	for _, n := range []api.Node{
		{}, {Op: -1}, {Op: 6}, {Op: math.MaxInt}, {Op: api.Set}, {Op: api.Set, Set: -1}, {Op: api.Empty, A: 1}, {Op: api.Cat, A: 0, B: 1}, {Op: api.Cat, A: -1}, {Op: api.Alt, A: 1}, {Op: api.Alt, B: math.MaxInt}, {Op: api.Rep, A: 1, Hi: -1}, {Op: api.Rep, Lo: 2, Hi: 1}, {Op: api.Rep, Hi: 256}, {Op: api.Rep, Lo: 256, Hi: -1}, {Op: api.Rep, Hi: -2}, {Op: api.Rep, Lo: -1}, {Op: api.Rep, B: 1},
	} {
		l = append(l, api.Tree{Nodes: []api.Node{one, n}}, api.Tree{Nodes: []api.Node{one, n}, Root: 1})
	}
	set := []api.Node{{Op: api.Set}}
	for _, r := range [][]api.Range{of('b', 'a'), of('a', 'a', 'b', 'b'), of(-1, 3), of(3, top+1), of('c', 'c', 'a', 'a'), of(math.MinInt, math.MaxInt)} {
		l = append(l, api.Tree{Nodes: set, Sets: [][]api.Range{r}}, api.Tree{Nodes: []api.Node{one}, Sets: [][]api.Range{nil, r}})
	}
	for _, root := range []int{1, -1, math.MaxInt, math.MinInt} {
		l = append(l, api.Tree{Nodes: []api.Node{one}, Root: root})
	}
	l = append(l, api.Tree{}, api.Tree{Sets: [][]api.Range{nil}})
	many := slices.Repeat([]api.Node{one}, api.MaxNodes+1)
	return map[api.Errno][]api.Tree{
		api.ErrForm: l,
		api.ErrBig:  {{Nodes: many}, {Nodes: []api.Node{one}, Sets: make([][]api.Range, api.MaxNodes+1)}, {Nodes: make([]api.Node, api.MaxNodes+1), Root: -1}, {Nodes: many[1:], Sets: slices.Repeat([][]api.Range{of(2, 1)}, api.MaxNodes+1)}},
	}
}

// P15.1, P15.2: of trees that may not be nothing is told but the error, whatever the text or the number.
func TestMayNotBe(t *testing.T) {
	for want, l := range bad() {
		for _, u := range l {
			for _, s := range []string{"", "a", "\xff"} {
				if is, e := Matches(u, s); is || e != want {
					t.Errorf("Matches of %d nodes, %q: %v, %d", len(u.Nodes), s, is, e)
				}
			}
			for _, c := range []int{'a', -1, 0xd800, math.MaxInt} {
				if r, e := Left(u, c); e != want || r.Nodes != nil || r.Sets != nil || r.Root != 0 {
					t.Errorf("Left of %d nodes, %d: %v, %d", len(u.Nodes), c, r, e)
				}
			}
			if Nullable(u) {
				t.Errorf("Nullable of %d nodes that may not be", len(u.Nodes))
			}
		}
	}
}

// held fails where something isn't told of a tree and some texts of letters as the model tells it: by Matches, by each way alone, and by what is left of it.
func held(t *testing.T, u api.Tree, all []string) {
	t.Helper()
	if Nullable(u) != model(u, "") {
		t.Fatalf("Nullable of %v", u)
	}
	rests := map[byte]api.Tree{}
	for _, s := range all {
		want := model(u, s)
		if is, e := Matches(u, s); is != want || e != api.OK {
			t.Fatalf("%v has %q: %v, %d", u, s, is, e)
		}
		for i, by := range ways() {
			if is, ends := has(u, s, by); is != want || !ends {
				t.Fatalf("%v has %q, by the way %d: %v, %v", u, s, i, is, ends)
			}
		}
		if s == "" {
			continue
		}
		rest, ok := rests[s[0]]
		if !ok {
			rest = left(t, u, int(s[0]))
			rests[s[0]] = rest
		}
		if is := model(rest, s[1:]); is != want {
			t.Fatalf("what is left of %v behind %q, %v, has the rest of %q: %v", u, s[:1], rest, s, is)
		}
	}
}

// P15.1, P15.2, P15.3: all small trees and texts.
func TestAllSmall(t *testing.T) {
	seen := 0
	all := texts(3, "a", "b")
	see := func(u api.Tree) {
		seen++
		held(t, u, all)
	}
	u := api.Tree{Sets: [][]api.Range{of('a', 'a'), of('b', 'b'), nil}}
	a, b, none := api.Node{Op: api.Set}, api.Node{Op: api.Set, Set: 1}, api.Node{Op: api.Set, Set: 2}
	every(u, 3, []api.Node{{Op: api.Empty}, a, b, none}, [][2]int{{0, -1}, {1, -1}, {2, -1}, {0, 0}, {0, 1}, {1, 1}, {0, 2}, {1, 2}, {2, 2}, {2, 3}}, see)
	every(u, 4, []api.Node{{Op: api.Empty}, a, b}, [][2]int{{0, -1}, {0, 1}, {2, 2}}, see)
	all = texts(5, "a")
	every(u, 4, []api.Node{{Op: api.Empty}, a}, [][2]int{{1, -1}, {0, 1}, {1, 2}, {2, 3}}, see)
	if seen < 20000 {
		t.Errorf("only %d trees", seen)
	}
}

// P15.1, P15.2, P15.3: many greater trees, and longer texts.
func TestManyTrees(t *testing.T) {
	s := source(1)
	yes := 0
	for i := range 6000 {
		u := s.tree(4+i%20, 1+i%4)
		var all []string
		for range 6 {
			all = append(all, s.text(s.below(10), "aab"))
		}
		held(t, u, all)
		for _, text := range all {
			if model(u, text) {
				yes++
			}
		}
	}
	if yes < 5000 || yes > 31000 {
		t.Errorf("%d of 36000 texts are had", yes)
	}
}

// P15.2, P15.3: what is left, and what is left of that, to the text's end; of numbers that are no code points, too.
func TestLeftOn(t *testing.T) {
	s := source(2)
	for i := range 3000 {
		u := s.tree(4+i%24, 3)
		rest := u
		var row []int
		for range 12 {
			if Nullable(rest) != hasRow(u, row) {
				t.Fatalf("%v is left of %v behind %v", rest, u, row)
			}
			if empties(rest) {
				break
			}
			c := []int{'a', 'b', 'a', 0xd800, 'a'}[s.below(5)]
			row = append(row, c)
			rest = left(t, rest, c)
		}
	}
}

// P15.3: one behind the other, what is left of long texts doesn't grow.
func TestLeftLong(t *testing.T) {
	s := source(3)
	for _, x := range []struct {
		s, letters string
		n          int
	}{
		{"(a|b)*a(a|b){9}", "ab", 400}, {"((a|b)*a(a|b){5}c)*", "aaaaabbbbbc", 300}, {"(a|aa|aaa|aaaa)*", "a", 500}, {"((((a*b?)*c?)*d?)*e?)*", "abcde", 400}, {"(a*b*)*(ab|ba)*", "ab", 400}, {"(a?b?){100}", "ab", 150}, {strings.Repeat("ab", 150), "a", 1}, {"(" + strings.Repeat("a?", 60) + ")*b", "a", 200},
	} {
		u := parsed(t, x.s)
		rest, text := u, s.text(x.n, x.letters)
		for i, c := range []byte(text) {
			rest = left(t, rest, int(c))
			if len(rest.Nodes) > 4*len(u.Nodes)+400 {
				t.Fatalf("%.60q: %d nodes are left behind %d letters", x.s, len(rest.Nodes), i+1)
			}
			if i%37 == 0 {
				matches(t, u, text[:i+1], Nullable(rest))
			}
		}
	}
}

// P15.1: long texts, and long expressions, of which few parts come.
func TestLong(t *testing.T) {
	r := strings.Repeat
	for _, x := range []struct {
		s, text string
		want    bool
	}{
		{"a*b", r("a", 200000) + "b", true}, {"a*b", r("a", 200000), false}, {"(a|b)*a(a|b){3}", r("ab", 50000) + "abbb", true}, {"(a|b)*a(a|b){3}", r("ab", 50000) + "bbbb", false}, {"(ab*c|d)+", r("abbbcd", 9000), true}, {"é+", r("é", 60000), true}, {".*", r("é\U0001f600x", 9000), true}, {"(.|\\n)*x", r("\n", 60000), false},
		{r("abcdefghij", 200), r("abcdefghij", 200), true}, {r("abcdefghij", 200), r("abcdefghij", 199) + "abcdefghi", false}, {r("a?", 1365), r("a", 1365), true}, {r("a?", 1365), r("a", 1366), false}, {r("a*b*", 600), r("ab", 600), true}, {r("a*b*", 600), r("ab", 600) + "ab", false}, {r("a|", 1365), "", true}, {r("x|", 1365) + "ab", "ab", true},
		{"a{255}", r("a", 255), true}, {"a{255}", r("a", 254), false}, {"a{255}", r("a", 256), false}, {"(a{255}){20}", r("a", 5100), true}, {"(a{255}){20}", r("a", 5099), false}, {"(a{9,255}b{1,255}){255}", r(r("a", 30)+"b", 255), true}, {"(foo|bar|baz){255}", r("foobarbaz", 85), true}, {"(foo|bar|baz){255}", r("foobarbaz", 85) + "foo", false}, {"(a?){255}", r("a", 255), true}, {"(a?){255}", r("a", 256), false}, {"((a?){255}){255}", r("a", 20), true}, {"(a{1,255}b?){3,255}", r("a", 40), true}, {"(a{1,20}b?){3,20}", r("a", 400), true}, {"(a{1,20}b?){3,20}", r("a", 401), false}, {"((a{1,3}){1,3}){1,3}", r("a", 27), true}, {"((a{1,3}){1,3}){1,3}", r("a", 28), false},
	} {
		matches(t, parsed(t, x.s), x.text, x.want)
	}
	// Text that nobody could reckon on is not gone through, where nothing is left.
	matches(t, tooMany(), "b"+r("a", 5000), false)
	matches(t, parsed(t, "a{3}"), r("a", 1<<22), false)
}

// P15.1, P15.2: parts that stand in so many places that nobody could write them all.
func TestShared(t *testing.T) {
	a := func(n int) string { return strings.Repeat("a", n) }
	for _, n := range []int{1, 2, 3, 5, 10, 20, 100, 1000, 1300} {
		twice, most := chain(maybe, n, catTwice), 1<<min(n, 30)
		if !Nullable(twice) || Nullable(chain(letter, n, catTwice)) {
			t.Errorf("Nullable of %d that are double", n)
		}
		for k := range 3 {
			matches(t, twice, a(k), k <= most)
			matches(t, chain(letter, n, catTwice), a(k), k == most)
			matches(t, chain(letter, n, altTwice), a(k), k == 1)
		}
		rest := left(t, twice, 'a')
		matches(t, rest, a(1), 1 <= most-1)
		matches(t, rest, "b", false)
		// A part of two kinds of letters, of which one takes none.
		mixed := chain(maybe, n, func(b *arena.Builder, last int) int { return b.Alt(b.Cat(last, last), b.Empty()) })
		matches(t, mixed, "a", true)
		matches(t, mixed, "b", false)
	}
	for _, k := range []int{1, 3, 5, 10, 15} {
		matches(t, chain(maybe, 20, catTwice), a(k), true)
		matches(t, chain(maybe, 20, catTwice), a(k)+"b", false)
	}
	matches(t, chain(letter, 8, catTwice), a(256), true)
	matches(t, chain(letter, 8, catTwice), a(255), false)
	matches(t, chain(letter, 4095, catTwice), a(3000), false)
	matches(t, chain(letter, 4095, altTwice), "a", true)
	matches(t, chain(letter, 4095, altTwice), "aa", false)
	if !Nullable(chain(maybe, 4094, catTwice)) || Nullable(chain(letter, 4095, altTwice)) {
		t.Errorf("Nullable of chains")
	}
}

// P15.1, P15.2: trees of as many nodes as may be, one in the other.
func TestDeep(t *testing.T) {
	for name, more := range map[string]func(b *arena.Builder, last int) int{
		"star": func(b *arena.Builder, last int) int { return b.Rep(last, 0, -1) },
		"once": func(b *arena.Builder, last int) int { return b.Rep(last, 1, 1) },
		"plus": func(b *arena.Builder, last int) int { return b.Rep(last, 1, -1) },
		"left": func(b *arena.Builder, last int) int { return b.Alt(last, 0) },
		"some": func(b *arena.Builder, last int) int { return b.Alt(0, b.Rep(last, 1, 2)) },
	} {
		u := chain(letter, 4095, more)
		if len(u.Nodes) < 4000 {
			t.Fatalf("%s: %d nodes", name, len(u.Nodes))
		}
		matches(t, u, "a", true)
		matches(t, u, "ab", false)
		if Nullable(u) != (name == "star") {
			t.Errorf("%s: Nullable", name)
		}
		if is := Nullable(left(t, chain(letter, 800, more), 'a')); !is {
			t.Errorf("%s: what is left behind a hasn't the empty row", name)
		}
	}
	row := chain(letter, 4095, func(b *arena.Builder, last int) int { return b.Cat(last, 0) })
	matches(t, row, strings.Repeat("a", 4096), true)
	matches(t, row, strings.Repeat("a", 4095), false)
	matches(t, row, strings.Repeat("a", 4097), false)
	matches(t, left(t, row, 'a'), strings.Repeat("a", 4095), true)
	row = chain(letter, 4095, func(b *arena.Builder, last int) int { return b.Cat(0, last) })
	matches(t, row, strings.Repeat("a", 4096), true)
	matches(t, left(t, row, 'a'), strings.Repeat("a", 4095), true)
	// As many unlike Sets as there may be.
	var want []byte
	u := built(func(b *arena.Builder) {
		last := b.Set(of('a', 'a'))
		for i := range 2047 {
			last = b.Cat(last, b.Set(of('b', 'b', 1000+2*i, 1000+2*i)))
		}
		want = []byte("a" + strings.Repeat("b", 2047))
	})
	matches(t, u, string(want), true)
	matches(t, u, string(want[1:]), false)
	rest := left(t, left(t, u, 'a'), 'b')
	matches(t, rest, string(want[2:]), true)
	matches(t, rest, string(want[3:]), false)
}

// P15.1: nodes beside the Root's parts count for nothing.
func TestBeside(t *testing.T) {
	u := tooMany()
	nodes := append(slices.Clone(u.Nodes), api.Node{Op: api.Set}, api.Node{Op: api.Rep, A: len(u.Nodes), Lo: 2, Hi: -1}, api.Node{Op: api.Empty})
	u = api.Tree{Nodes: append(nodes, slices.Repeat(nodes[len(nodes)-1:], api.MaxNodes-len(nodes))...), Sets: u.Sets, Root: len(nodes) - 2}
	matches(t, u, strings.Repeat("a", 9000), true)
	matches(t, u, "a", false)
	if rest := left(t, u, 'a'); len(rest.Nodes) > 3 {
		t.Errorf("%d nodes are left of a from 2 times on", len(rest.Nodes))
	}
	u.Root = len(nodes) - 1
	matches(t, u, "", true)
	u.Root = 0
	matches(t, u, "a", true)
}

// P15.1: more parts come on the way than may.
func TestTooMany(t *testing.T) {
	long := strings.Repeat("a", 20000)
	for i, u := range []api.Tree{tooMany(), parsed(t, "((a{255}){255}){255}"), parsed(t, "((((a{1,255}){1,255}){1,255}){1,255}){1,255}"), chain(maybe, 4000, catTwice), chain(maybe, 40, func(b *arena.Builder, last int) int { return b.Rep(last, 3, 255) })} {
		for _, s := range []string{long, long + "b"} {
			if is, e := Matches(u, s); is || e != api.ErrBig {
				t.Errorf("%d: Matches of a long text: %v, %d", i, is, e)
			}
		}
		matches(t, u, "", Nullable(u))
		matches(t, u, "b"+long, false)
	}
}

// P15.2: the tree of what is left would have too many nodes; a little less is told.
func TestLeftTooMany(t *testing.T) {
	// Each of the sets has a and a letter of its own; what is left begins with any of them.
	stars := func(n int) api.Tree {
		return built(func(b *arena.Builder) {
			last := b.Empty()
			for i := range n {
				last = b.Cat(last, b.Rep(b.Set(of('a', 'a', 1000+2*i, 1000+2*i)), 0, -1))
			}
		})
	}
	for _, n := range []int{1000, 1024} {
		u := stars(n)
		rest := left(t, u, 'a')
		if len(rest.Nodes) > api.MaxNodes {
			t.Errorf("%d nodes are left", len(rest.Nodes))
		}
		matches(t, rest, "aa"+string(rune(1000))+string(rune(1000+2*n-2)), true)
		matches(t, rest, string(rune(1002))+string(rune(1000)), false)
	}
	for i, u := range []api.Tree{stars(1300), stars(1365), chain(letter, 4095, catTwice), chain(maybe, 4094, catTwice), chain(letter, 2100, catTwice)} {
		if rest, e := Left(u, 'a'); e != api.ErrBig || rest.Nodes != nil || rest.Sets != nil || rest.Root != 0 {
			t.Errorf("%d: %d nodes are left, %d", i, len(rest.Nodes), e)
		}
		if !empties(left(t, u, 'b')) {
			t.Errorf("%d: something is left behind b", i)
		}
	}
	if rest := left(t, chain(letter, 2000, catTwice), 'a'); len(rest.Nodes) > api.MaxNodes || Nullable(rest) {
		t.Errorf("%d nodes are left of a doubled", len(rest.Nodes))
	}
}

// P15.1: a book takes as many unlike parts as may come, and not one more; those that it has it still finds.
func TestBook(t *testing.T) {
	b := opened()
	x := b.Set(of('a', 'a'))
	for len(b.parts) < maxParts {
		x = b.Cat(x, 2)
	}
	if maxParts != 12288 || b.full || x != maxParts-1 || b.Cat(x-1, 2) != x || b.Set(of('a', 'a')) != 2 || b.full {
		t.Errorf("a book of %d parts: full %v, the last one is %d", len(b.parts), b.full, x)
	}
	if y := b.Cat(x, 2); y != nothing || !b.full || len(b.parts) != maxParts {
		t.Errorf("one more: %d, full %v", y, b.full)
	}
	// A walk's spots are as many at most.
	for n, want := range map[int]bool{maxParts - 1: false, maxParts: false, maxParts + 1: true} {
		w := walk{b: opened(), met: map[spot]struct{}{}}
		for i := range n {
			w.meet(i, i%7)
			w.meet(i, i%7)
		}
		if w.b.full != want || len(w.wait) != min(n, maxParts) {
			t.Errorf("%d spots: %d wait, full %v", n, len(w.wait), w.b.full)
		}
	}
}

// P15.1: parts that are alike are one.
func TestAlike(t *testing.T) {
	for _, l := range [][]string{
		{"a", "[a]", "a{1}", "(a|a)", "a()", "()a", "(a{1}){1,1}"}, {"", "()", "a{0}", "()*", "(){3}", `[^\u{0}-\u{10ffff}]*`, "(|)"}, {`[^\u{0}-\u{10ffff}]`, `a[^\u{0}-\u{10ffff}]`, `[^\u{0}-\u{10ffff}]a`, `[^\u{0}-\u{10ffff}]{2}`}, {"a*", "(a*)*", "(a*)+", "(a*)?", "(a*){2,3}", "a*|", "(a*|)*"}, {"a?", "(a?)?", "(a?){1}", "a?|", "|a?"}, {"(a?){2}", "(a?){1,2}", "(a?){0,2}", "(a?){2}|"}, {"a|b", "b|a"}, {"ab", "(a)(b)", "ab()", `ab|[^\u{0}-\u{10ffff}]`}, {"a+", "a{1,}"},
	} {
		b := opened()
		want := made(b, parsed(t, l[0]))
		for _, s := range l[1:] {
			if x := made(b, parsed(t, s)); x != want {
				t.Errorf("%q and %q: %v, %v", l[0], s, b.parts[want], b.parts[x])
			}
		}
	}
}

// P15.2: what is left in many ways is told once, and nothing beside it.
func TestFewNodes(t *testing.T) {
	for s, want := range map[string]int{"a": 1, "a*": 2, "abc": 3, "(ac|ad|[ab]c)": 3, "(.c|[ab]d|ac|.d|[ac]c)": 3, "(a|[ab]|.)c|(a|.)d|ac": 3, "a?a?": 2, "x*(ab|y)|z{3}": 1, "a{7}|b{4}": 2, "(a|aa){2}": 5, "(a*b*)*": 8} {
		if u := left(t, parsed(t, s), 'a'); len(u.Nodes) != want {
			t.Errorf("what is left of %q behind a has %d nodes, not %d: %v", s, len(u.Nodes), want, u)
		}
	}
}

// P15.1, P15.2: what is handed in is left as it is, its spare room too; what is handed out is new, and the same each time.
func TestMemory(t *testing.T) {
	for _, x := range byHand() {
		u := parsed(t, x.s)
		u.Nodes = append(u.Nodes, api.Node{Op: 99})[:len(u.Nodes)]
		for i, l := range u.Sets {
			u.Sets[i] = append(slices.Clone(l), api.Range{Lo: 99, Hi: 98})[:len(l)]
		}
		u.Sets = append(u.Sets, of(99, 98))[:len(u.Sets)]
		nodes, sets := slices.Clone(u.Nodes[:cap(u.Nodes)]), slices.Clone(u.Sets[:cap(u.Sets)])
		for i, l := range sets {
			sets[i] = slices.Clone(l[:cap(l)])
		}
		first := left(t, u, 'a')
		kept := api.Tree{Nodes: slices.Clone(first.Nodes), Sets: slices.Clone(first.Sets), Root: first.Root}
		for i, l := range kept.Sets {
			kept.Sets[i] = slices.Clone(l)
		}
		for range 2 {
			matches(t, u, "abc", slices.Contains(x.yes, "abc"))
			again := left(t, u, 'a')
			if !slices.Equal(again.Nodes, kept.Nodes) || !slices.EqualFunc(again.Sets, kept.Sets, slices.Equal[[]api.Range]) || again.Root != kept.Root {
				t.Errorf("%q: %v is left, and then %v", x.s, kept, again)
			}
			// What was told is the caller's, to the end of its room.
			for i := range again.Nodes[:cap(again.Nodes)] {
				again.Nodes[:cap(again.Nodes)][i] = api.Node{Op: 77}
			}
			for _, l := range again.Sets {
				for i := range l[:cap(l)] {
					l[:cap(l)][i] = api.Range{Lo: 77, Hi: 76}
				}
			}
		}
		if !slices.Equal(u.Nodes[:cap(u.Nodes)], nodes) {
			t.Errorf("%q: nodes were changed", x.s)
		}
		for i, l := range u.Sets[:cap(u.Sets)] {
			if !slices.Equal(l[:cap(l)], sets[i]) {
				t.Errorf("%q: the set %d was changed", x.s, i)
			}
		}
		if !slices.Equal(first.Nodes, kept.Nodes) || !slices.EqualFunc(first.Sets, kept.Sets, slices.Equal[[]api.Range]) {
			t.Errorf("%q: what was told first was changed", x.s)
		}
	}
}

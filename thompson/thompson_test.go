package thompson

import (
	"math"
	"slices"
	"strings"
	"testing"

	"spool/api"
	"spool/arena"
	"spool/deriv"
	"spool/measure"
)

// still is a state that does nothing.
func still() api.NState { return api.NState{Lo: -1, Hi: -1, To: -1, Tag: -1} }

// P21.1: automata that may be, and that may not, by hand.
func TestRight(t *testing.T) {
	one := func(change func(s *api.NState)) api.Nfa {
		s := still()
		change(&s)
		return api.Nfa{States: []api.NState{s}}
	}
	for i, x := range []struct {
		n    api.Nfa
		want bool
	}{
		{api.Nfa{}, false},
		{api.Nfa{States: []api.NState{}}, false},
		{api.Nfa{Start: -1}, false},
		{api.Nfa{States: []api.NState{still()}}, true},
		{api.Nfa{States: []api.NState{still()}, Start: 1}, false},
		{api.Nfa{States: []api.NState{still()}, Start: -1}, false},
		{api.Nfa{States: []api.NState{still(), still()}, Start: 1}, true},
		{api.Nfa{States: []api.NState{still(), still()}, Start: 2}, false},
		{api.Nfa{States: []api.NState{{}}}, true},
		{api.Nfa{States: []api.NState{{}, still()}}, true},
		{api.Nfa{States: []api.NState{still(), {To: 1}}}, true},
		{api.Nfa{States: []api.NState{still(), {To: 2}}}, false},
		{api.Nfa{States: []api.NState{{To: 2}, still()}}, false},
		{one(func(s *api.NState) { s.Lo, s.Hi, s.To = 0, 255, 0 }), true},
		{one(func(s *api.NState) { s.Lo, s.Hi, s.To = 255, 255, 0 }), true},
		{one(func(s *api.NState) { s.Lo, s.Hi, s.To = 0, 256, 0 }), false},
		{one(func(s *api.NState) { s.Lo, s.Hi, s.To = 256, 256, 0 }), false},
		{one(func(s *api.NState) { s.Lo, s.Hi, s.To = 5, 4, 0 }), false},
		{one(func(s *api.NState) { s.Lo, s.Hi, s.To = 0, -1, 0 }), false},
		{one(func(s *api.NState) { s.Lo, s.Hi, s.To = -1, 0, 0 }), false},
		{one(func(s *api.NState) { s.Lo, s.Hi, s.To = -2, 0, 0 }), false},
		{one(func(s *api.NState) { s.Lo, s.Hi, s.To = -2, -2, -1 }), false},
		{one(func(s *api.NState) { s.Lo, s.Hi, s.To = 0, 0, -1 }), false},
		{one(func(s *api.NState) { s.Hi = 0 }), false},
		{one(func(s *api.NState) { s.Hi = -2 }), false},
		{one(func(s *api.NState) { s.To = 0 }), false},
		{one(func(s *api.NState) { s.To = -2 }), false},
		{one(func(s *api.NState) { s.Tag = -2 }), false},
		{one(func(s *api.NState) { s.Tag = 0 }), true},
		{one(func(s *api.NState) { s.Tag = math.MaxInt }), true},
		{one(func(s *api.NState) { s.Tag = math.MinInt }), false},
		{one(func(s *api.NState) { s.Eps = []int{} }), true},
		{one(func(s *api.NState) { s.Eps = []int{0} }), true},
		{one(func(s *api.NState) { s.Eps = []int{0, 0, 0} }), true},
		{one(func(s *api.NState) { s.Eps = []int{1} }), false},
		{one(func(s *api.NState) { s.Eps = []int{-1} }), false},
		{one(func(s *api.NState) { s.Eps = []int{0, 0, 1} }), false},
		{one(func(s *api.NState) { s.Eps = []int{0, -1, 0} }), false},
		{one(func(s *api.NState) { s.Lo, s.Hi, s.To, s.Eps, s.Tag = 7, 9, 0, []int{0}, 4 }), true},
		{api.Nfa{States: slices.Repeat([]api.NState{still()}, 2*api.MaxNfa), Start: api.MaxNfa}, true},
	} {
		if is := Right(x.n); is != x.want {
			t.Errorf("%d: Right: %v", i, is)
		}
	}
}

// P21.1: what is wrong with a state is found wherever it stands, and with a Start, too; numbers come from the whole range.
func TestRightMany(t *testing.T) {
	some := func(i int) api.Nfa {
		n := api.Nfa{Start: 1}
		for range 3 {
			n.States = append(n.States, still())
		}
		n.States[i].Lo, n.States[i].Hi, n.States[i].To, n.States[i].Eps = 97, 98, 1, []int{2, 0}
		return n
	}
	held := func(n api.Nfa) {
		t.Helper()
		if is := Right(n); is != mayBe(n) {
			t.Fatalf("Right(%v): %v", n, is)
		}
	}
	for i := range 3 {
		for _, x := range numbers() {
			for k, change := range []func(n *api.Nfa){
				func(n *api.Nfa) { n.Start = x },
				func(n *api.Nfa) { n.States[i].Lo = x },
				func(n *api.Nfa) { n.States[i].Hi = x },
				func(n *api.Nfa) { n.States[i].To = x },
				func(n *api.Nfa) { n.States[i].Eps[0] = x },
				func(n *api.Nfa) { n.States[i].Eps[1] = x },
				func(n *api.Nfa) { n.States[i].Tag = x },
			} {
				n := some(i)
				change(&n)
				held(n)
				if k != 1 {
					continue
				}
				for _, y := range numbers() {
					for _, z := range numbers() {
						n.States[i].Hi, n.States[i].To = y, z
						held(n)
					}
				}
			}
		}
	}
}

// one is the automaton of a tree, which may be, and has as many states as are asked for.
func one(t *testing.T, what any, u api.Tree, tag int) api.Nfa {
	t.Helper()
	n, e := One(u, tag)
	if e != api.OK || len(n.States) != measure.Need(u)+2 || !Right(n) || !mayBe(n) {
		t.Fatalf("One of %.99v: %d states, %d; it needs %d; Right: %v", what, len(n.States), e, measure.Need(u), Right(n))
	}
	return n
}

// held fails where an automaton does not tell a tag of just the texts that a tree has.
func held(t *testing.T, what any, n api.Nfa, u api.Tree, tag int, all ...string) {
	t.Helper()
	for _, s := range all {
		want := -1
		if hasText(u, s) {
			want = tag
		}
		if k := tells(n, s); k != want {
			t.Fatalf("of %.99v: %.99q: %d, not %d", what, s, k, want)
		}
	}
}

// P21.1, P21.2: the example.
func TestExample(t *testing.T) {
	u := parsed(t, "a|b")
	n, e := Mode(api.Spec{Modes: []string{"m"}, Rules: []api.Rule{{Tree: u}}}, 0)
	if e != api.OK || len(n.States) != 5 || !Right(n) {
		t.Errorf("Mode: %v, %d", n, e)
	}
	for s, want := range map[string]int{"a": 0, "b": 0, "": -1, "ab": -1, "c": -1, "aa": -1} {
		if k := tells(n, s); k != want {
			t.Errorf("%q: %d", s, k)
		}
	}
}

// P21.1: expressions of all kinds, by hand: texts that they have, and texts that they have not.
func TestOne(t *testing.T) {
	for _, x := range []struct{ s, has, hasNot string }{
		{"()", ",", "a,é"},
		{"a", "a", ",b,aa,ab"},
		{"abc", "abc", ",a,ab,abcd,abca,acb"},
		{"a|b|", ",a,b", "ab,aa,c"},
		{"(a|b)(c|d)", "ac,ad,bc,bd", "a,c,ab,cd,ca,acd,"},
		{"a?", ",a", "aa,b"},
		{"a*", ",a,aa,aaaaaaaaaaaaaaaaaaa", "b,ab,aab,ba"},
		{"a+", "a,aa,aaa", ",b,ab"},
		{"a{0}", ",", "a"},
		{"(ab*){0}", ",", "a,ab,b"},
		{"a{0}b", "b", ",ab,bb"},
		{"a{3}", "aaa", ",a,aa,aaaa"},
		{"a{2,4}", "aa,aaa,aaaa", ",a,aaaaa"},
		{"a{2,}", "aa,aaa,aaaa,aaaaaa", ",a,aab"},
		{"(ab){2,3}", "abab,ababab", ",ab,abababab,aba,ababa,abb"},
		{"(a|bc){1,2}d", "ad,bcd,aad,abcd,bcad,bcbcd", "d,bd,aaad,bc,acd"},
		{"(a*)*", ",a,aa", "b,ab"},
		{"(a*b*)*c", "c,ac,bc,bac,abbac", ",a,b,ca,cc"},
		{"(a?){3}", ",a,aa,aaa", "aaaa,b"},
		{"(a?){2,}b", "b,ab,aab,aaaaab", ",a,aa,bb"},
		{"()*", ",", "a"},
		{"()+a", "a", ",aa"},
		{"(){2,5}", ",", "a"},
		{"(()|a)*b", "b,ab,aab", ",a,bb"},
		{"(a+)+", "a,aa,aaa", ",b"},
		{"(a|b)*abb", "abb,aabb,babb,abbabb", ",ab,abba,abbb"},
		{"é", "é", ",e,\xc3,\xa9,\xc3\xa9\xa9,\xc3\xaa,éé"},
		{"[é\u20ac]*", ",é,\u20ac,é\u20ac,\u20acé", "\xe2,\xe2\x82,\xe2\x82\xac\xac,a,é\xe2"},
		{"[^a]", "b,é,\u20ac,\U0001f600,\u0000,\u007f,\U0010ffff", ",a,bb,\xff,\x80,\xed\xa0\x80,\xf4\x90\x80\x80,\xc0\x80,\xe0\x80\x80,\xf0\x80\x80\x80"},
		{`[\u{d7ff}-\u{e000}]`, "\ud7ff,\ue000", ",\xed\xa0\x80,\xed\xbf\xbf,\ud7fe,\ue001"},
		{`[\u{d800}-\u{dfff}]`, "", ",\xed\xa0\x80,\xed\xbf\xbf,a"},
		{`[\u{d800}-\u{dfff}]?a`, "a", ",\xed\xa0\x80a,aa"},
		{`[^\u{0}-\u{10ffff}]`, "", ",a,\x00"},
		{`[^\u{0}-\u{10ffff}]*`, ",", "a,\x00"},
		{`a[^\u{0}-\u{10ffff}]|b`, "b", ",a,ab,bb"},
		{`([^\u{0}-\u{10ffff}]|a){2}`, "aa", ",a,aaa"},
		{"a{255}", strings.Repeat("a", 255), "a," + strings.Repeat("a", 254) + "," + strings.Repeat("a", 256)},
		{"a{0,255}b", "b,ab," + strings.Repeat("a", 254) + "b," + strings.Repeat("a", 255) + "b", "a," + strings.Repeat("a", 255) + "," + strings.Repeat("a", 256) + "b"},
		{"a{254,}", strings.Repeat("a", 254) + "," + strings.Repeat("a", 600), "a," + strings.Repeat("a", 253)},
	} {
		u := parsed(t, x.s)
		n := one(t, x.s, u, 7)
		for i, l := range []string{x.has, x.hasNot} {
			if l == "" {
				continue
			}
			for _, s := range strings.Split(l, ",") {
				if k := tells(n, s); k != []int{7, -1}[i] {
					t.Errorf("%.99s: %.99q: %d", x.s, s, k)
				}
			}
		}
	}
}

// P21.1, P21.3: all trees of three nodes, with all texts of at most four of four pieces, among them one that is no text by itself; and all of four, with fewer texts.
func TestOneSmall(t *testing.T) {
	sets := [][]api.Range{of('a', 'a'), of('b', 'b', 233, 233)}
	reps := [][2]int{{0, -1}, {1, -1}, {2, -1}, {0, 0}, {0, 1}, {1, 1}, {2, 2}, {0, 2}, {1, 3}}
	each := func(ahead int) []api.Node {
		l := []api.Node{{Op: api.Empty}, {Op: api.Set}, {Op: api.Set, Set: 1}}
		for i := range ahead {
			for k := range ahead {
				l = append(l, api.Node{Op: api.Cat, A: i, B: k}, api.Node{Op: api.Alt, A: i, B: k})
			}
			for _, r := range reps {
				l = append(l, api.Node{Op: api.Rep, A: i, Lo: r[0], Hi: r[1]})
			}
		}
		return l
	}
	var down func(u api.Tree, nodes int, all []string)
	down = func(u api.Tree, nodes int, all []string) {
		if len(u.Nodes) == nodes {
			u.Root = nodes - 1
			held(t, u.Nodes, one(t, u.Nodes, u, 3), u, 3, all...)
			return
		}
		for _, n := range each(len(u.Nodes)) {
			down(api.Tree{Nodes: append(slices.Clone(u.Nodes), n), Sets: sets}, nodes, all)
		}
	}
	for nodes := range 3 {
		down(api.Tree{Sets: sets}, nodes+1, texts(4, "a", "b", "é", "\xc3"))
	}
	down(api.Tree{Sets: sets}, 4, texts(3, "a", "é"))
}

// P21.1, P21.3: the Root may be any node; what isn't part of it is not told.
func TestRoots(t *testing.T) {
	u := parsed(t, "(ab|c)*d{2,3}|[xé]?y")
	for i := range u.Nodes {
		u.Root = i
		held(t, i, one(t, i, u, 0), u, 0, texts(4, "a", "b", "c", "d", "xy")...)
		held(t, i, one(t, i, u, 0), u, 0, "é", "éy", "abcdd", "abcddd", "cababdd")
	}
}

// somewhat are texts that are like a text that a tree has, or an automaton tells a tag of.
func somewhat(state *uint64, s string) []string {
	if s == "" {
		return []string{"", "a", "\xc3"}
	}
	i := next(state, len(s))
	other := []byte(s)
	other[i] += byte(1 + next(state, 3))
	return []string{s, s[:i], s[i:], s + s, string(other), s[:i] + "a" + s[i:], s[:i] + s[i+1:]}
}

// walked is a text by which one comes through an automaton, till nothing comes of it, a tag is told, or it is long.
func walked(state *uint64, n api.Nfa) string {
	var s []byte
	for now := start(n); len(s) < 40; {
		var l []api.NState
		for k, x := range n.States {
			if now[k] && x.Lo != -1 {
				l = append(l, x)
			}
		}
		if len(l) == 0 || best(n, now) != -1 && next(state, 4) == 0 {
			break
		}
		x := l[next(state, len(l))]
		s = append(s, byte(x.Lo+next(state, x.Hi-x.Lo+1)))
		now = goOn(n, now, s[len(s)-1])
	}
	return string(s)
}

// P21.1, P21.3: trees of many kinds, whose parts stand in many places; the texts are some by which one comes through their automata, and what is like them.
func TestOneMany(t *testing.T) {
	sets := [][]api.Range{of('a', 'a'), of('a', 'c'), of('b', 'b', 'd', 'd'), of(233, 0x20ac), of(0, 0xd7ff, 0xe000, top), of('a', 'a', 0xd800, 0x1f600), nil, of(0xd800, 0xdfff)}
	state := uint64(21)
	told := 0
	for told < 4000 {
		u := someTree(&state, 1+next(&state, 14), sets)
		tag := next(&state, 1000)
		if measure.Need(u) > 500 || arena.Size(u) > 2000 {
			continue
		}
		n := one(t, u.Nodes, u, tag)
		told++
		if need := needs(u, u.Root); len(n.States) != need+2 {
			t.Fatalf("One of %v: %d states; it needs %d", u.Nodes, len(n.States), need)
		}
		for range 6 {
			for _, s := range somewhat(&state, walked(&state, n)) {
				if len(s) < 60 {
					held(t, u.Nodes, n, u, tag, s)
				}
			}
		}
	}
}

// P21.1: an automaton tells what is told by what is left of a tree.
func TestOneDeriv(t *testing.T) {
	state := uint64(215)
	for _, x := range []string{"(a|b)*a(a|b){3}", "(é|e\u0301)+x?", "[0-9]+(\\.[0-9]+)?", `'([^'\\\n]|\\[^\n])*'`, "(a{2,3}|b?){2,4}c*", "#\\*([^*]|\\*+[^*#])*\\*+#"} {
		u := parsed(t, x)
		n := one(t, x, u, 1)
		for range 300 {
			for _, s := range somewhat(&state, walked(&state, n)) {
				is, e := deriv.Matches(u, s)
				if k := tells(n, s); e != api.OK || is != (k == 1) {
					t.Fatalf("%s: %q: %d, %v, %d", x, s, k, is, e)
				}
			}
		}
	}
}

// edges are code points about each edge, and numbers that are none.
func edges() []int {
	return []int{0, 1, 'a', 126, 127, 128, 129, 191, 192, 2046, 2047, 2048, 2049, 4095, 4096, 0xd7fe, 0xd7ff, 0xd800, 0xdbff, 0xdfff, 0xe000, 0xe001, 0xfffe, 0xffff, 0x10000, 0x10001, 0xfffff, 0x100000, top - 1, top}
}

// bytesOf are the bytes of a number, of any number that is as high as a code point, even where it is none.
func bytesOf(c int) string {
	if c < 0xd800 || c > 0xdfff {
		return string(rune(c))
	}
	return string([]byte{0xe0 | byte(c>>12), 0x80 | byte(c>>6&0x3f), 0x80 | byte(c&0x3f)})
}

// P21.1: a set of the numbers from one edge to another has just their bytes.
func TestSets(t *testing.T) {
	for _, lo := range edges() {
		for _, hi := range edges() {
			if hi < lo {
				continue
			}
			u := api.Tree{Nodes: []api.Node{{Op: api.Set}}, Sets: [][]api.Range{of(lo, hi)}}
			n := one(t, u.Sets, u, 2)
			for _, c := range edges() {
				want := -1
				if c >= lo && c <= hi && (c < 0xd800 || c > 0xdfff) {
					want = 2
				}
				s := bytesOf(c)
				if k := tells(n, s); k != want {
					t.Fatalf("%v: %q: %d", u.Sets, s, k)
				}
				if tells(n, s[1:]) == 2 && len(s) > 2 || tells(n, s[:len(s)-1]) != -1 || tells(n, s+"\x80") != -1 {
					t.Fatalf("%v: a piece of %q is told", u.Sets, s)
				}
			}
		}
	}
}

// P21.1: each byte, in each place of a text of two bytes.
func TestBytes(t *testing.T) {
	u := parsed(t, `[a-z\u{80}-\u{900}]`)
	n := one(t, "a set", u, 0)
	var all []string
	for x := range 256 {
		all = append(all, string([]byte{byte(x)}), string([]byte{0xe0, byte(x), 0x80}), string([]byte{0xe0, 0xa0, byte(x)}))
		for y := range 256 {
			all = append(all, string([]byte{byte(x), byte(y)}))
		}
	}
	held(t, "a set", n, u, 0, all...)
}

// P21.1: tags from the whole range.
func TestTags(t *testing.T) {
	u := parsed(t, "ab?")
	for _, tag := range numbers() {
		if tag >= 0 {
			held(t, tag, one(t, tag, u, tag), u, tag, texts(3, "a", "b")...)
			continue
		}
		fails(t, tag, api.ErrArg)(One(u, tag))
	}
}

// fails fails where an automaton is told, or not that error.
func fails(t *testing.T, what any, want api.Errno) func(n api.Nfa, e api.Errno) {
	return func(n api.Nfa, e api.Errno) {
		t.Helper()
		if e != want || n.Start != 0 || len(n.States) != 0 {
			t.Errorf("%.99v: %d states, %d, not %d", what, len(n.States), e, want)
		}
	}
}

// bad are trees that may not be, of ErrForm.
func bad() []api.Tree {
	set := [][]api.Range{of('a', 'a')}
	l := []api.Tree{{}, {Sets: set}, {Nodes: make([]api.Node, 1)}, {Nodes: []api.Node{{Op: api.Set}}}, {Nodes: []api.Node{{Op: api.Set}}, Sets: set, Root: 1}, {Nodes: []api.Node{{Op: api.Set}}, Sets: set, Root: -1}, {Nodes: []api.Node{{Op: api.Set}}, Sets: [][]api.Range{of('b', 'a')}}}
	for _, n := range []api.Node{{}, {Op: 6}, {Op: -1}, {Op: api.Cat}, {Op: api.Alt, A: -1}, {Op: api.Rep, A: 0, Hi: 1}, {Op: api.Rep, Lo: math.MinInt, Hi: math.MaxInt}, {Op: api.Set, Set: math.MaxInt}, {Op: api.Empty, Hi: 1}} {
		l = append(l, api.Tree{Nodes: []api.Node{n}, Sets: set}, api.Tree{Nodes: []api.Node{n, {Op: api.Set}}, Sets: set, Root: 1})
	}
	return l
}

// tooMany is a tree of more nodes than there may be.
func tooMany() api.Tree {
	return api.Tree{Nodes: slices.Repeat([]api.Node{{Op: api.Empty}}, api.MaxNodes+1)}
}

// P21.1, P21.2: trees that may not be; their error comes ahead of ErrArg.
func TestBad(t *testing.T) {
	fine := parsed(t, "a")
	for i, u := range bad() {
		for _, tag := range numbers() {
			fails(t, i, api.ErrForm)(One(u, tag))
		}
		s := api.Spec{Modes: []string{"m", "n"}, Rules: []api.Rule{{Tree: fine}, {Tree: u}, {Tree: tooMany(), Mode: 1}}}
		fails(t, i, api.ErrForm)(Mode(s, 0))
		fails(t, i, api.ErrBig)(Mode(s, 1))
		s.Rules[0].Tree, s.Rules[1].Mode = tooMany(), 1
		fails(t, i, api.ErrBig)(Mode(s, 0))
		fails(t, i, api.ErrForm)(Mode(s, 1))
		s.Rules[2].Mode = 0
		fails(t, i, api.ErrBig)(Mode(s, 0))
		s.Rules[0].Tree = fine
		fails(t, i, api.ErrBig)(Mode(s, 0))
	}
	fails(t, "too many nodes", api.ErrBig)(One(tooMany(), 0))
	fails(t, "too many nodes", api.ErrBig)(One(tooMany(), -1))
	fails(t, "too many sets", api.ErrBig)(One(api.Tree{Nodes: []api.Node{{Op: api.Empty}}, Sets: make([][]api.Range, api.MaxNodes+1)}, 0))
	big := parsed(t, "(a{255}){255}")
	fails(t, "much, and no tag", api.ErrArg)(One(big, -1))
	fails(t, "much", api.ErrBig)(One(big, 0))
}

// needing is a tree that needs so many states.
func needing(n int) api.Tree {
	return built(func(b *arena.Builder) {
		all, a := b.Empty(), b.Set(of('a', 'a'))
		part := b.Rep(a, 100, 100)
		all = b.Cat(all, b.Rep(part, n/100, n/100))
		b.Cat(all, b.Rep(a, n%100, n%100))
	})
}

// P21.1, P21.2: as many states as there may be, and one more.
func TestBig(t *testing.T) {
	two := func(a, b int) api.Spec {
		return api.Spec{Modes: []string{"m", "n"}, Rules: []api.Rule{{Tree: needing(a)}, {Tree: needing(4095), Mode: 1}, {Tree: needing(b)}}}
	}
	for _, k := range []int{0, 1, 99, 100, 101, 4000, 4092, 4093, 4094, 4095, 4096, 5000, 20000} {
		u := needing(k)
		if measure.Need(u) != k {
			t.Fatalf("a tree needs %d, not %d", measure.Need(u), k)
		}
		s := api.Spec{Modes: []string{"m"}, Rules: []api.Rule{{Tree: u}}}
		if k > api.MaxNfa-2 {
			fails(t, k, api.ErrBig)(One(u, 0))
			fails(t, k, api.ErrBig)(Mode(s, 0))
		} else {
			n := one(t, k, u, 0)
			m, e := Mode(s, 0)
			if e != api.OK || len(m.States) != k+2 || tells(m, strings.Repeat("a", k)) != 0 || tells(n, strings.Repeat("a", k)) != 0 || tells(n, strings.Repeat("a", k+1)) != -1 || k > 0 && tells(n, strings.Repeat("a", k-1)) != -1 {
				t.Errorf("%d: %d states, %d", k, len(m.States), e)
			}
		}
		for _, more := range []int{0, 1, 7, 4093, 4094} {
			n, e := Mode(two(k, more), 0)
			if k+more+3 > api.MaxNfa {
				fails(t, []int{k, more}, api.ErrBig)(n, e)
			} else if e != api.OK || len(n.States) != k+more+3 || !Right(n) {
				t.Errorf("%d and %d: %d states, %d", k, more, len(n.States), e)
			}
		}
	}
	fails(t, "the other mode", api.ErrBig)(Mode(two(1, 1), 1))
}

// P21.2: many rules: each needs a state, if nothing else.
func TestManyRules(t *testing.T) {
	empty := built(func(b *arena.Builder) { b.Empty() })
	for _, k := range []int{0, 1, 127, 128, 129, 4094, 4095, 4096, 4097, 10000} {
		s := api.Spec{Modes: []string{"m", "n"}, Rules: slices.Repeat([]api.Rule{{Tree: empty, Mode: 1}}, k)}
		n, e := Mode(s, 1)
		if k > api.MaxNfa-1 {
			fails(t, k, api.ErrBig)(n, e)
			s.Rules[k-1].Tree = api.Tree{}
			fails(t, k, api.ErrForm)(Mode(s, 1))
		} else if want := min(k, 1) - 1; e != api.OK || len(n.States) != k+1 || !Right(n) || tells(n, "") != want || tells(n, "a") != -1 {
			t.Errorf("%d rules: %d states, %d", k, len(n.States), e)
		}
		n, e = Mode(s, 0)
		if e != api.OK || len(n.States) != 1 || !Right(n) || tells(n, "") != -1 || tells(n, "a") != -1 {
			t.Errorf("no rule: %v, %d", n, e)
		}
	}
	// What rules need may be far more than is counted of one.
	s := api.Spec{Modes: []string{"m"}, Rules: slices.Repeat([]api.Rule{{Tree: parsed(t, "((a{255}){255}){255}")}}, 3000)}
	fails(t, "very much", api.ErrBig)(Mode(s, 0))
}

// P21.2: modes that there are not.
func TestNoMode(t *testing.T) {
	s := api.Spec{Modes: []string{"m", "n"}, Rules: []api.Rule{{Tree: parsed(t, "a")}, {Mode: -1}, {Mode: 2}, {Mode: math.MinInt}, {Mode: math.MaxInt}}}
	for _, m := range numbers() {
		fails(t, m, api.ErrMode)(Mode(api.Spec{}, m))
		fails(t, m, api.ErrMode)(Mode(api.Spec{Rules: s.Rules}, m))
		if m != 0 && m != 1 {
			fails(t, m, api.ErrMode)(Mode(s, m))
			continue
		}
		// Rules that stand in no mode change nothing, whatever they are.
		n, e := Mode(s, m)
		if e != api.OK || len(n.States) != []int{3, 1}[m] || tells(n, "a") != -m {
			t.Errorf("mode %d: %v, %d", m, n, e)
		}
	}
}

// first is the number of the first rule of a mode whose tree has a text.
func first(s api.Spec, m int, text string) int {
	for i, r := range s.Rules {
		if r.Mode == m && hasText(r.Tree, text) {
			return i
		}
	}
	return -1
}

// P21.2, P21.3: modes by hand: the first rule is told, by its number among all rules.
func TestMode(t *testing.T) {
	s := api.Spec{Modes: []string{"m", "n", "o", "m"}}
	for i, x := range []string{"if|else", "[a-z]+", "[a-z0-9]*", "[^a]", "if", "()", "é+", "(ab|a)(bc|c)?", "a{2,3}", "[\\u{d800}]"} {
		s.Rules = append(s.Rules, api.Rule{Mode: []int{2, 0, 2, 0, 0, 2, 2, 0, 2, 3}[i], Tree: parsed(t, x), Act: api.Act{Emit: "?", Goto: 77}})
	}
	for m := range s.Modes {
		n, e := Mode(s, m)
		need := 1
		for _, r := range s.Rules {
			if r.Mode == m {
				need += needs(r.Tree, r.Tree.Root) + 1
			}
		}
		if e != api.OK || len(n.States) != need || !Right(n) {
			t.Errorf("mode %d: %d states, not %d, %d", m, len(n.States), need, e)
		}
		for _, text := range append(texts(4, "a", "b", "if", "é", "9"), "else", "elsea", "abbc", "\xc3", "\xff") {
			if k := tells(n, text); k != first(s, m, text) {
				t.Errorf("mode %d: %q: %d, not %d", m, text, k, first(s, m, text))
			}
		}
	}
	n, _ := Mode(s, 2)
	for text, want := range map[string]int{"if": 0, "iff": 2, "": 2, "aa": 2, "é": 6, "éa": -1} {
		if k := tells(n, text); k != want {
			t.Errorf("%q: %d", text, k)
		}
	}
}

// P21.2, P21.3: modes of rules of many kinds.
func TestModeMany(t *testing.T) {
	sets := [][]api.Range{of('a', 'a'), of('a', 'c'), of('b', 'b', 'd', 'd'), of('d', 233), of(0, 0xd7ff, 0xe000, top)}
	state := uint64(212)
	for range 1000 {
		s := api.Spec{Modes: []string{"", "!", ""}}
		for range next(&state, 9) {
			u := someTree(&state, 1+next(&state, 8), sets)
			if measure.Need(u) < 300 && arena.Size(u) < 2000 {
				s.Rules = append(s.Rules, api.Rule{Mode: next(&state, 3), Tree: u})
			}
		}
		for m := range s.Modes {
			n, e := Mode(s, m)
			if e != api.OK || !Right(n) {
				t.Fatalf("Mode %d of %v: %d", m, s.Rules, e)
			}
			for range 4 {
				for _, text := range somewhat(&state, walked(&state, n)) {
					if k := tells(n, text); len(text) < 60 && k != first(s, m, text) {
						t.Fatalf("Mode %d of %v: %q: %d, not %d", m, s.Rules, text, k, first(s, m, text))
					}
				}
			}
		}
	}
}

// P21.1: what needs no state may stand in more places than can be counted, and end all the same; what needs few may be deep.
func TestDeep(t *testing.T) {
	deep := func(last api.Node, more func(i int) api.Node) api.Tree {
		u := api.Tree{Nodes: []api.Node{{Op: api.Empty}, last}, Sets: [][]api.Range{of('a', 'a'), of(0xd800, 0xdfff)}, Root: api.MaxNodes - 1}
		for len(u.Nodes) < api.MaxNodes {
			u.Nodes = append(u.Nodes, more(len(u.Nodes)-1))
		}
		return u
	}
	empty, a := api.Node{Op: api.Empty}, api.Node{Op: api.Set}
	cat := func(i int) api.Node { return api.Node{Op: api.Cat, A: i, B: i} }
	held := func(what string, u api.Tree, has, hasNot string) {
		t.Helper()
		n := one(t, what, u, 0)
		if tells(n, has) != 0 || tells(n, hasNot) != -1 {
			t.Errorf("%s: %.9q %d, %.9q %d", what, has, tells(n, has), hasNot, tells(n, hasNot))
		}
	}
	held("Cats of Empty", deep(empty, cat), "", "a")
	held("Reps of Empty", deep(empty, func(i int) api.Node { return api.Node{Op: api.Rep, A: i, Lo: 255, Hi: 255} }), "", "a")
	held("Cats behind Empty", deep(a, func(i int) api.Node { return api.Node{Op: api.Cat, B: i} }), "a", "aa")
	held("Cats ahead of Empty", deep(a, func(i int) api.Node { return api.Node{Op: api.Cat, A: i} }), "a", "")
	held("once", deep(a, func(i int) api.Node { return api.Node{Op: api.Rep, A: i, Lo: 1, Hi: 1} }), "a", "aa")
	held("at most once", deep(empty, func(i int) api.Node {
		if i == 1 {
			return api.Node{Op: api.Rep, Hi: -1}
		}
		return api.Node{Op: api.Rep, A: i, Lo: i % 2, Hi: 1}
	}), "", "a")
	held("Cats of no time", deep(a, func(i int) api.Node {
		if i == 1 {
			return api.Node{Op: api.Rep, A: i}
		}
		return cat(i)
	}), "", "a")
	held("no time", deep(a, func(i int) api.Node {
		if i == api.MaxNodes-2 {
			return api.Node{Op: api.Rep, A: i}
		}
		return cat(i)
	}), "", "a")
	held("often, behind what is nothing", deep(a, func(i int) api.Node {
		if i >= api.MaxNodes-3 {
			return api.Node{Op: api.Rep, A: i, Lo: []int{255, 16}[i-api.MaxNodes+3], Hi: []int{255, 16}[i-api.MaxNodes+3]}
		}
		return api.Node{Op: api.Cat, A: i}
	}), strings.Repeat("a", 4080), "a")
}

// P21.1: a set of very many ranges that needs one state, in very many places.
func TestWide(t *testing.T) {
	var l []api.Range
	for c := 0xd800; c < 0xe000; c += 2 {
		l = append(l, of(c, c)...)
	}
	u := api.Tree{Sets: [][]api.Range{l}, Nodes: []api.Node{{Op: api.Set}, {Op: api.Rep, Lo: 255, Hi: 255}, {Op: api.Rep, A: 1, Lo: 16, Hi: 16}}, Root: 2}
	n := one(t, "a wide set", u, 0)
	if tells(n, "") != -1 || tells(n, "a") != -1 {
		t.Errorf("a text of numbers that are no code points")
	}
}

// P21.1: all code points but one, twice: the set that needs most.
func TestNeedOfAll(t *testing.T) {
	u := parsed(t, `[^\n]{2}`)
	n := one(t, "two of all", u, 0)
	if len(n.States) != 60 {
		t.Errorf("%d states", len(n.States))
	}
	var all []string
	for _, c := range edges() {
		for _, d := range edges() {
			all = append(all, bytesOf(c)+bytesOf(d), bytesOf(c)+"\n")
		}
		all = append(all, bytesOf(c))
	}
	held(t, "two of all", n, u, 0, all...)
}

// spare is a list with spare room, in which something stands.
func spare[T any](l []T, what T) []T {
	return append(append(make([]T, 0, len(l)+3), l...), what, what, what)[:len(l)]
}

// P21.1, P21.2, P21.3: what is handed in is not changed, its spare room neither; what is handed out shares no memory with it, nor with another answer, and no two lists of one answer share any.
func TestMemory(t *testing.T) {
	u := parsed(t, "(a|bé*[c-zé]|d{2,4})+x?")
	u.Nodes, u.Sets = spare(u.Nodes, api.Node{Op: 77}), spare(u.Sets, of(7, 7))
	for i := range u.Sets {
		u.Sets[i] = spare(u.Sets[i], api.Range{Lo: 3, Hi: 4})
	}
	s := api.Spec{Modes: spare([]string{"m"}, "z"), Rules: spare([]api.Rule{{Tree: u}, {Tree: u}}, api.Rule{Mode: 5})}
	before := copied(u)
	kept := func(what string) {
		t.Helper()
		same := slices.Equal(u.Nodes, before.Nodes) && slices.EqualFunc(u.Sets, before.Sets, slices.Equal) && u.Root == before.Root
		for _, n := range u.Nodes[len(u.Nodes):cap(u.Nodes)] {
			same = same && n == api.Node{Op: 77}
		}
		for _, l := range u.Sets {
			for _, r := range l[len(l):cap(l)] {
				same = same && r == api.Range{Lo: 3, Hi: 4}
			}
		}
		if !same || s.Modes[:2][1] != "z" || s.Rules[:3][2].Mode != 5 || len(s.Rules) != 2 {
			t.Errorf("%s changed what was handed in", what)
		}
	}
	for i, make := range []func() api.Nfa{
		func() api.Nfa { n, _ := One(u, 4); return n },
		func() api.Nfa { n, _ := Mode(s, 0); return n },
	} {
		n, m := make(), make()
		kept([]string{"One", "Mode"}[i])
		want := make()
		scribble(n)
		kept("a change of what was handed out")
		if !alike(m, want) || !alike(make(), want) {
			t.Errorf("%d: answers share memory", i)
		}
		for k := range m.States {
			full := m.States[k].Eps[:cap(m.States[k].Eps)]
			for j := range full {
				full[j]++
			}
			for j := range m.States {
				if j != k && !slices.Equal(m.States[j].Eps, want.States[j].Eps) {
					t.Fatalf("%d: the lists of %d and %d share memory", i, k, j)
				}
			}
			for j := range full {
				full[j]--
			}
		}
		n = make()
		before := make()
		if !Right(n) || !alike(n, before) {
			t.Errorf("Right changed what was handed in")
		}
	}
}

// scribble changes all of an automaton, and what there is room for behind its lists.
func scribble(n api.Nfa) {
	l := n.States[:cap(n.States)]
	for i := range l {
		eps := l[i].Eps[:cap(l[i].Eps)]
		for k := range eps {
			eps[k] = -99
		}
		l[i].Lo, l[i].Hi, l[i].To, l[i].Tag = 9, 8, 7, -6
	}
}

// alike tells whether two automata are the same, number by number.
func alike(a, b api.Nfa) bool {
	return a.Start == b.Start && slices.EqualFunc(a.States, b.States, func(x, y api.NState) bool {
		return x.Lo == y.Lo && x.Hi == y.Hi && x.To == y.To && x.Tag == y.Tag && slices.Equal(x.Eps, y.Eps)
	})
}

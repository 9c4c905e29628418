package regprint

import (
	"math"
	"slices"
	"strconv"
	"strings"
	"testing"

	"spool/api"
	"spool/arena"
	"spool/regex"
)

// prints fails where a tree isn't told as a text.
func prints(t *testing.T, u api.Tree, want string) {
	t.Helper()
	if s, e := Print(u); e != api.OK || s != want {
		t.Errorf("Print of %d nodes: %.99q, %d, not %.99q", len(u.Nodes), s, e, want)
	}
}

// fails fails where a tree isn't told as an error alone.
func fails(t *testing.T, u api.Tree, want api.Errno) {
	t.Helper()
	if s, e := Print(u); e != want || s != "" {
		t.Errorf("Print of %d nodes: %d bytes, %d, not %d", len(u.Nodes), len(s), e, want)
	}
}

// deep fails where a tree has not so many brackets within one another.
func deep(t *testing.T, u api.Tree, want int) {
	t.Helper()
	if n := Deep(u); n != want {
		t.Errorf("Deep of %d nodes: %d, not %d", len(u.Nodes), n, want)
	}
}

// back fails where what is printed of a tree isn't read as the same one.
func back(t *testing.T, u api.Tree) {
	t.Helper()
	s, e := Print(u)
	if e != api.OK {
		t.Errorf("Print of %d nodes: %d", len(u.Nodes), e)
		return
	}
	if again, f := regex.Parse(s, nil, false); f != (api.Fault{}) || !arena.Same(u, again) {
		t.Errorf("%.99q is read as another tree, or not: %v", s, f)
	}
}

// held fails where a tree isn't told as the model tells it, and read back where it can be.
func held(t *testing.T, u api.Tree) {
	t.Helper()
	s := model(u, u.Root)
	deep(t, u, nested(s))
	if len(s) > api.MaxText {
		fails(t, u, api.ErrBig)
		return
	}
	prints(t, u, s)
	// Each part that is read has nodes of its own: what is told more often than there may be nodes is not read.
	if nested(s) <= api.MaxDepth && arena.Size(u) <= api.MaxNodes {
		back(t, u)
	}
}

// The parts of trees that are made by hand.
var (
	a, b, c, d = char('a'), char('b'), char('c'), char('d')
	all        = []int{0, -1}
)

// byHand are trees, each with its text and how many brackets stand within one another in it.
func byHand() []struct {
	s    sketch
	text string
	deep int
} {
	return []struct {
		s    sketch
		text string
		deep int
	}{
		{empty(), "()", 1}, {a, "a", 0}, {char('Z'), "Z", 0}, {char('0'), "0", 0}, {char('_'), `[\u{5f}]`, 0}, {char(10), `[\u{a}]`, 0}, {char(233), `[\u{e9}]`, 0}, {class(nil), `[^\u{0}-\u{10ffff}]`, 0}, {class(of('a', 'c')), `[\u{61}-\u{63}]`, 0}, {class(of('a', 'a', 'c', 'c')), `[\u{61}\u{63}]`, 0}, {class(of(0, top)), `[\u{0}-\u{10ffff}]`, 0}, {class(of('(', ')')), `[\u{28}-\u{29}]`, 0},
		{cat(a, b), "ab", 0}, {cat(cat(a, b), c), "abc", 0}, {cat(a, cat(b, c)), "a(bc)", 1}, {cat(cat(a, b), cat(c, d)), "ab(cd)", 1}, {cat(a, cat(b, cat(c, d))), "a(b(cd))", 2}, {cat(a, cat(cat(b, c), d)), "a(bcd)", 1}, {cat(cat(a, cat(b, c)), d), "a(bc)d", 1},
		{alt(a, b), "a|b", 0}, {alt(alt(a, b), c), "a|b|c", 0}, {alt(a, alt(b, c)), "a|(b|c)", 1}, {alt(alt(a, b), alt(c, d)), "a|b|(c|d)", 1}, {alt(a, alt(b, alt(c, d))), "a|(b|(c|d))", 2}, {alt(a, alt(alt(b, c), d)), "a|(b|c|d)", 1}, {alt(alt(a, alt(b, c)), d), "a|(b|c)|d", 1},
		{cat(alt(a, b), c), "(a|b)c", 1}, {cat(a, alt(b, c)), "a(b|c)", 1}, {cat(alt(a, b), alt(c, d)), "(a|b)(c|d)", 1}, {cat(cat(alt(a, b), c), d), "(a|b)cd", 1}, {cat(a, cat(alt(b, c), d)), "a((b|c)d)", 2}, {cat(alt(a, cat(b, c)), d), "(a|bc)d", 1},
		{alt(cat(a, b), c), "ab|c", 0}, {alt(a, cat(b, c)), "a|bc", 0}, {alt(cat(a, b), cat(c, d)), "ab|cd", 0}, {alt(a, cat(b, cat(c, d))), "a|b(cd)", 1}, {alt(cat(a, alt(b, c)), d), "a(b|c)|d", 1},
		{rep(a, all...), "a*", 0}, {rep(empty(), all...), "()*", 1}, {rep(class(nil), all...), `[^\u{0}-\u{10ffff}]*`, 0}, {rep(char(' '), 1, -1), `[\u{20}]+`, 0}, {rep(cat(a, b), all...), "(ab)*", 1}, {rep(alt(a, b), 1, -1), "(a|b)+", 1}, {rep(rep(a, 0, 1), all...), "(a?)*", 1}, {rep(rep(rep(a, all...), 2, 2), 1, -1), "((a*){2})+", 2}, {rep(cat(cat(a, b), c), all...), "(abc)*", 1}, {rep(alt(alt(a, b), c), all...), "(a|b|c)*", 1},
		{cat(rep(a, all...), b), "a*b", 0}, {cat(a, rep(b, all...)), "ab*", 0}, {cat(rep(a, all...), rep(b, 1, -1)), "a*b+", 0}, {cat(rep(a, 3, 3), char('5')), "a{3}5", 0}, {alt(rep(a, all...), b), "a*|b", 0}, {alt(a, rep(b, all...)), "a|b*", 0}, {alt(a, rep(cat(b, c), all...)), "a|(bc)*", 1}, {cat(rep(alt(a, b), all...), c), "(a|b)*c", 1}, {cat(a, rep(cat(b, c), 0, 1)), "a(bc)?", 1},
		{cat(empty(), empty()), "()()", 1}, {cat(a, empty()), "a()", 1}, {cat(empty(), a), "()a", 1}, {alt(empty(), empty()), "()|()", 1}, {alt(a, empty()), "a|()", 1}, {alt(empty(), a), "()|a", 1}, {cat(a, cat(b, empty())), "a(b())", 2}, {cat(alt(empty(), a), b), "(()|a)b", 2}, {rep(alt(empty(), empty()), all...), "(()|())*", 2}, {rep(rep(empty(), all...), all...), "(()*)*", 2}, {cat(rep(a, all...), empty()), "a*()", 1},
		{rep(cat(cat(alt(a, b), c), alt(alt(d, char('e')), alt(char('f'), char('g')))), all...), "((a|b)c(d|e|(f|g)))*", 3}, {cat(row(cat, a, b, c, d), row(alt, a, b, c, d)), "abcd(a|b|c|d)", 1}, {alt(row(cat, a, b, c), row(cat, b, c, d)), "abc|bcd", 0},
	}
}

// P14.1, P14.2, P14.3: texts of all kinds of nodes, by hand.
func TestByHand(t *testing.T) {
	for _, x := range byHand() {
		u := tree(x.s)
		prints(t, u, x.text)
		deep(t, u, x.deep)
		back(t, u)
		if s := model(u, u.Root); s != x.text {
			t.Errorf("the model tells %q, not %q", s, x.text)
		}
	}
}

// P14.1, P14.3: how often, each number of times, of each kind of part.
func TestTimes(t *testing.T) {
	for want, n := range map[string][]int{
		"*": {0, -1}, "+": {1, -1}, "?": {0, 1}, "{0}": {0, 0}, "{1}": {1, 1}, "{2}": {2, 2}, "{255}": {255, 255}, "{2,}": {2, -1}, "{255,}": {255, -1}, "{10,}": {10, -1}, "{0,2}": {0, 2}, "{1,2}": {1, 2}, "{0,255}": {0, 255}, "{1,255}": {1, 255}, "{254,255}": {254, 255}, "{2,5}": {2, 5}, "{9,10}": {9, 10},
	} {
		prints(t, tree(rep(a, n...)), "a"+want)
		prints(t, tree(rep(empty(), n...)), "()"+want)
		prints(t, tree(rep(cat(a, b), n...)), "(ab)"+want)
		prints(t, tree(rep(alt(a, b), n...)), "(a|b)"+want)
		prints(t, tree(rep(rep(a, 3, 4), n...)), "(a{3,4})"+want)
		prints(t, tree(rep(class(of('a', 'b')), n...)), `[\u{61}-\u{62}]`+want)
		prints(t, tree(cat(rep(a, n...), rep(b, n...))), "a"+want+"b"+want)
		prints(t, tree(alt(rep(a, n...), rep(b, n...))), "a"+want+"|b"+want)
	}
	for lo := range api.MaxRep + 1 {
		for hi := lo - 1; hi <= api.MaxRep; hi++ {
			u := tree(rep(a, lo, max(hi, lo)))
			if hi < lo {
				u = tree(rep(a, lo, -1))
			}
			held(t, u)
		}
	}
}

// P14.1, P14.3: each set of just one number.
func TestNumbers(t *testing.T) {
	alone := 0
	for n := range top + 1 {
		u := tree(char(n))
		want := `[\u{` + strconv.FormatInt(int64(n), 16) + "}]"
		if n >= 'a' && n <= 'z' || n >= 'A' && n <= 'Z' || n >= '0' && n <= '9' {
			want = string(rune(n))
			alone++
		}
		prints(t, u, want)
		if n%64 == 0 || n < 1024 {
			back(t, u)
			deep(t, u, 0)
		}
	}
	if alone != 62 {
		t.Errorf("%d numbers are letters or digits", alone)
	}
}

// P14.1, P14.3: sets of other kinds; none is told as a letter that has more than one number.
func TestSets(t *testing.T) {
	for n := range 300 {
		for _, l := range [][]api.Range{of(n, n+1), of(n, n, n+2, n+2), of(n, top), of(0, n), of(n, n, top, top)} {
			held(t, tree(class(l)))
		}
	}
	for _, l := range someSets() {
		held(t, tree(class(l)))
		held(t, tree(cat(rep(class(l), all...), alt(class(l), class(nil)))))
	}
}

// P14.1: a Set has the set of its number, and nodes beside the Root's parts count for nothing.
func TestBeside(t *testing.T) {
	u := api.Tree{
		Nodes: []api.Node{{Op: api.Set, Set: 2}, {Op: api.Set}, {Op: api.Cat, A: 1, B: 0}, {Op: api.Alt, A: 2, B: 2}, {Op: api.Rep, A: 3, Lo: 2, Hi: -1}, {Op: api.Empty}, {Op: api.Set, Set: 1}},
		Sets:  [][]api.Range{of('x', 'x'), of('y', 'y'), of('z', 'z')},
	}
	for root, want := range []string{"z", "x", "xz", "xz|xz", "(xz|xz){2,}", "()", "y"} {
		u.Root = root
		held(t, u)
		prints(t, u, want)
	}
	// As many nodes and sets as there may be, of which only one counts.
	full := api.Tree{Nodes: slices.Repeat([]api.Node{{Op: api.Empty}}, api.MaxNodes), Sets: make([][]api.Range, api.MaxNodes), Root: 77}
	prints(t, full, "()")
	deep(t, full, 1)
	full.Nodes[77] = api.Node{Op: api.Set, Set: api.MaxNodes - 1}
	full.Sets[api.MaxNodes-1] = of('q', 'q')
	prints(t, full, "q")
	deep(t, full, 0)
}

// P14.1, P14.2: trees that may not be, each in its own way, however little of them counts.
func TestMayNotBe(t *testing.T) {
	one := api.Node{Op: api.Empty}
	for _, n := range []api.Node{
		{}, {Op: -1}, {Op: 6}, {Op: math.MaxInt}, {Op: api.Set}, {Op: api.Set, Set: -1}, {Op: api.Empty, A: 1}, {Op: api.Cat, A: 0, B: 1}, {Op: api.Cat, A: -1}, {Op: api.Alt, A: 1}, {Op: api.Alt, B: math.MaxInt}, {Op: api.Rep, A: 1, Hi: -1}, {Op: api.Rep, Lo: 2, Hi: 1}, {Op: api.Rep, Hi: 256}, {Op: api.Rep, Lo: 256, Hi: -1}, {Op: api.Rep, Hi: -2}, {Op: api.Rep, Lo: -1}, {Op: api.Rep, B: 1},
	} {
		for root := range 2 {
			u := api.Tree{Nodes: []api.Node{one, n}, Root: root}
			fails(t, u, api.ErrForm)
			deep(t, u, 0)
		}
	}
	for _, u := range []api.Tree{
		{}, {Nodes: []api.Node{one}, Root: 1}, {Nodes: []api.Node{one}, Root: -1}, {Nodes: []api.Node{one}, Root: math.MaxInt}, {Nodes: []api.Node{one}, Root: math.MinInt}, {Sets: [][]api.Range{nil}}, tree(class(of(2, 1))), tree(class(of('a', 'a', 'b', 'b'))), tree(class(of(-1, 3))), tree(class(of(3, top+1))), tree(class(of('c', 'c', 'a', 'a'))), {Nodes: []api.Node{one}, Sets: [][]api.Range{of('b', 'a')}},
	} {
		fails(t, u, api.ErrForm)
		deep(t, u, 0)
	}
	for _, u := range []api.Tree{
		{Nodes: slices.Repeat([]api.Node{one}, api.MaxNodes+1)}, {Nodes: []api.Node{one}, Sets: make([][]api.Range, api.MaxNodes+1)}, {Sets: make([][]api.Range, api.MaxNodes+1)}, {Nodes: make([]api.Node, api.MaxNodes+1), Root: -1},
	} {
		fails(t, u, api.ErrBig)
		deep(t, u, 0)
	}
	// What may not be is told ahead of a text that would be too long.
	long := chain(api.Node{Op: api.Set}, 100, func(i int) api.Node { return api.Node{Op: api.Cat, A: i, B: i} })
	fails(t, long, api.ErrBig)
	deep(t, long, 99)
	long.Nodes = append(long.Nodes, api.Node{})
	fails(t, long, api.ErrForm)
	deep(t, long, 0)
}

// P14.1: the text's length, at its edge, whatever stands at the text's end.
func TestLength(t *testing.T) {
	prints(t, filled(api.MaxText), strings.Repeat("a", api.MaxText))
	deep(t, filled(api.MaxText), 0)
	held(t, tree(row(cat, slices.Repeat([]sketch{a}, 2048)...)))
	long := slices.Repeat([]sketch{class(of('a', 'c', 'e', 'g'))}, 163)
	held(t, tree(row(cat, append(long, slices.Repeat([]sketch{a}, 21)...)...)))
	for _, last := range []sketch{a, char('é'), class(nil), class(of('a', 'c')), empty(), rep(a, 1, -1), rep(a, 2, 3), rep(empty(), 10, -1), cat(a, b), alt(a, b), cat(a, cat(b, c)), rep(alt(a, b), all...), alt(empty(), rep(cat(a, b), 200, 255))} {
		for _, pair := range []func(x, y sketch) sketch{cat, alt} {
			for _, around := range []func(x sketch) sketch{
				func(x sketch) sketch { return x },
				func(x sketch) sketch { return rep(x, all...) },
				func(x sketch) sketch { return rep(x, 3, 3) },
				func(x sketch) sketch { return cat(a, x) },
				func(x sketch) sketch { return alt(a, x) },
				func(x sketch) sketch { return alt(x, a) },
			} {
				edge(t, func(filler sketch) api.Tree { return tree(around(pair(filler, last))) })
				edge(t, func(filler sketch) api.Tree { return tree(around(pair(last, filler))) })
			}
		}
	}
}

// edge fails where trees with texts about as long as there may be aren't told by their texts' lengths; each has a row of a filler.
func edge(t *testing.T, of func(filler sketch) api.Tree) {
	t.Helper()
	short := of(filler(4))
	least := api.MaxText - len(model(short, short.Root))
	for more := -2; more <= 2; more++ {
		u := of(filler(4 + least + more))
		s := model(u, u.Root)
		if len(s) != api.MaxText+more {
			t.Fatalf("%d bytes, not %d more than %d", len(s), more, api.MaxText)
		}
		if more > 0 {
			fails(t, u, api.ErrBig)
		} else {
			prints(t, u, s)
		}
	}
}

// filler is a sketch of a row of Sets, whose text has so many bytes.
func filler(n int) sketch {
	// The longest text of a Set of just one number.
	const widest = len(`[\u{10ffff}]`)
	return row(cat, append(slices.Repeat([]sketch{char(top)}, n/widest), slices.Repeat([]sketch{a}, n%widest)...)...)
}

// P14.1, P14.2: parts that stand in so many places that nobody could write them all.
func TestMany(t *testing.T) {
	letter, nothing := api.Node{Op: api.Set}, api.Node{Op: api.Empty}
	for _, n := range []int{1, 2, 5, 10, 11, 12, 13, 40, 100, 4095} {
		for _, op := range []int{api.Cat, api.Alt} {
			twice := func(i int) api.Node { return api.Node{Op: op, A: i, B: i} }
			u := chain(letter, n, twice)
			deep(t, u, n-1)
			deep(t, chain(nothing, n, twice), n)
			if n < 13 {
				held(t, u)
			} else {
				fails(t, u, api.ErrBig)
			}
			right := chain(letter, n, func(i int) api.Node { return api.Node{Op: op, A: 0, B: i} })
			left := chain(letter, n, func(i int) api.Node { return api.Node{Op: op, A: i, B: 0} })
			deep(t, right, n-1)
			deep(t, left, 0)
			held(t, right)
			held(t, left)
		}
		held(t, chain(letter, n, func(i int) api.Node { return api.Node{Op: api.Rep, A: i, Hi: -1} }))
		held(t, chain(nothing, n, func(i int) api.Node { return api.Node{Op: api.Rep, A: i, Hi: 1} }))
		deep(t, chain(letter, n, func(i int) api.Node { return api.Node{Op: api.Rep, A: i, Lo: 255, Hi: 255} }), n-1)
		deep(t, chain(nothing, n, func(i int) api.Node { return api.Node{Op: api.Rep, A: i, Lo: 255, Hi: 255} }), n)
		// Turn and turn about.
		deep(t, chain(letter, n, func(i int) api.Node { return api.Node{Op: api.Cat + i%2, A: i, B: i} }), (n-1)/2)
		deep(t, chain(nothing, n, func(i int) api.Node { return api.Node{Op: api.Alt - i%2, A: i, B: i} }), n/2+1)
		deep(t, chain(letter, n, func(i int) api.Node { return api.Node{Op: api.Cat + i%2, A: i, B: 0} }), (n-1)/2)
		deep(t, chain(letter, n, func(i int) api.Node { return api.Node{Op: api.Alt - i%2, A: i, B: 0} }), n/2)
		deep(t, chain(letter, n, func(i int) api.Node { return api.Node{Op: api.Alt - i%2, A: 0, B: i} }), n/2)
	}
	// A set that has a text far too long.
	var every []api.Range
	for i := 0; i <= top; i += 2 {
		every = append(every, api.Range{Lo: i, Hi: i})
	}
	u := tree(class(every))
	fails(t, u, api.ErrBig)
	deep(t, u, 0)
	u = chain(letter, 4000, func(i int) api.Node { return api.Node{Op: api.Cat, A: i, B: i} })
	u.Sets[0] = every
	fails(t, u, api.ErrBig)
	deep(t, u, 3999)
}

// P14.2, P14.3: as many brackets within one another as are read, made in all ways; one more is not.
func TestMaxDepth(t *testing.T) {
	for name, more := range map[string]func(x sketch) sketch{
		"rep": func(x sketch) sketch { return rep(x, all...) }, "cat": func(x sketch) sketch { return cat(a, x) }, "alt": func(x sketch) sketch { return alt(a, x) },
		"both": func(x sketch) sketch { return cat(alt(x, a), b) }, "mixed": func(x sketch) sketch { return rep(alt(a, cat(x, b)), 2, 2) },
	} {
		for _, first := range []sketch{a, empty(), rep(a, all...), cat(a, b), alt(a, b), class(of('(', ')'))} {
			x := first
			for range 40 {
				u := tree(x)
				s := model(u, u.Root)
				deep(t, u, nested(s))
				prints(t, u, s)
				again, f := regex.Parse(s, nil, false)
				if nested(s) <= api.MaxDepth && (f != (api.Fault{}) || !arena.Same(u, again)) {
					t.Errorf("%s: %q is read as another tree, or not: %v", name, s, f)
				}
				if nested(s) > api.MaxDepth && f.E != api.ErrDeep {
					t.Errorf("%s: %q with %d brackets: %v", name, s, nested(s), f)
				}
				x = more(x)
			}
		}
	}
}

// every goes through all trees of up to so many nodes, of some kinds of leaves and times.
func every(u api.Tree, most int, leaves []api.Node, times [][2]int, see func(u api.Tree)) {
	i := len(u.Nodes)
	if i > 0 {
		u.Root = i - 1
		see(u)
	}
	if i == most {
		return
	}
	try := func(n api.Node) {
		more := u
		more.Nodes = append(u.Nodes[:i:i], n)
		every(more, most, leaves, times, see)
	}
	for _, n := range leaves {
		try(n)
	}
	for x := range i {
		for y := range i {
			try(api.Node{Op: api.Cat, A: x, B: y})
			try(api.Node{Op: api.Alt, A: x, B: y})
		}
		for _, n := range times {
			try(api.Node{Op: api.Rep, A: x, Lo: n[0], Hi: n[1]})
		}
	}
}

// P14.1, P14.2, P14.3: all small trees.
func TestAllSmall(t *testing.T) {
	seen := 0
	see := func(u api.Tree) {
		seen++
		held(t, u)
	}
	u := api.Tree{Sets: [][]api.Range{of('a', 'a'), of('a', 'b')}}
	every(u, 4, []api.Node{{Op: api.Empty}, {Op: api.Set}, {Op: api.Set, Set: 1}}, [][2]int{{0, -1}, {1, 1}, {2, 3}}, see)
	every(u, 5, []api.Node{{Op: api.Empty}, {Op: api.Set}}, [][2]int{{0, -1}}, see)
	if seen < 100000 {
		t.Errorf("only %d trees", seen)
	}
}

// P14.1, P14.2, P14.3: many greater trees.
func TestManyTrees(t *testing.T) {
	state, big, read, deeper := uint64(1), 0, 0, 0
	for range 20000 {
		u := someTree(&state, 60)
		// What is far too long is not written out here: at most half of the nodes have no byte of their own.
		if arena.Size(u) > 20000 {
			fails(t, u, api.ErrBig)
			big++
			continue
		}
		held(t, u)
		switch s := model(u, u.Root); {
		case len(s) > api.MaxText:
			big++
		case nested(s) > 3:
			deeper++
			fallthrough
		default:
			read++
		}
	}
	if big < 100 || read < 5000 || deeper < 1000 {
		t.Errorf("%d too long, %d not, %d of these deep", big, read, deeper)
	}
}

// P14.3: trees with as many nodes as there may be.
func TestFullTrees(t *testing.T) {
	for _, s := range []sketch{
		row(cat, slices.Repeat([]sketch{a}, 2048)...), row(alt, slices.Repeat([]sketch{a}, 2048)...), row(cat, slices.Repeat([]sketch{rep(a, all...)}, 1365)...), row(alt, slices.Repeat([]sketch{rep(a, all...)}, 1365)...), rep(row(cat, slices.Repeat([]sketch{b}, 2048)...), 2, 9), row(cat, slices.Repeat([]sketch{empty()}, 2048)...), cat(row(alt, slices.Repeat([]sketch{a}, 1000)...), row(cat, slices.Repeat([]sketch{a}, 1047)...)), row(alt, slices.Repeat([]sketch{cat(a, alt(b, c))}, 580)...),
	} {
		u := tree(s)
		if arena.Check(u) != api.OK {
			t.Fatalf("a tree of %d nodes may not be", len(u.Nodes))
		}
		back(t, u)
	}
}

// P14.3: one part in many places is read as the same tree, as often as there may be nodes.
func TestSharedParts(t *testing.T) {
	for n := 1; n <= 2048; n += 89 {
		back(t, filled(n))
	}
	back(t, filled(2048))
	// Behind that there are more nodes in the text than a tree may have; the text is told all the same.
	for _, n := range []int{2049, 3000, 4096} {
		prints(t, filled(n), strings.Repeat("a", n))
	}
}

// P14.1, P14.2: what is handed in is left as it is, its spare room too, and what is told hangs on it alone.
func TestMemory(t *testing.T) {
	for _, x := range byHand() {
		u := tree(x.s)
		u.Nodes = append(u.Nodes, api.Node{Op: 99})[:len(u.Nodes)]
		for i, l := range u.Sets {
			u.Sets[i] = append(slices.Clone(l), api.Range{Lo: 99, Hi: 98})[:len(l)]
		}
		u.Sets = append(u.Sets, of(99, 98))[:len(u.Sets)]
		nodes, sets := slices.Clone(u.Nodes[:cap(u.Nodes)]), slices.Clone(u.Sets[:cap(u.Sets)])
		for i, l := range sets {
			sets[i] = slices.Clone(l[:cap(l)])
		}
		for range 2 {
			prints(t, u, x.text)
			deep(t, u, x.deep)
		}
		if !slices.Equal(u.Nodes[:cap(u.Nodes)], nodes) {
			t.Errorf("%q: nodes were changed", x.text)
		}
		for i, l := range u.Sets[:cap(u.Sets)] {
			if !slices.Equal(l[:cap(l)], sets[i]) {
				t.Errorf("%q: the set %d was changed", x.text, i)
			}
		}
	}
}

package arena

import (
	"math"
	"slices"
	"testing"

	"spool/api"
)

const top = api.MaxRune

// of are ranges, of two numbers each.
func of(n ...int) []api.Range {
	var l []api.Range
	for i := 0; i+1 < len(n); i += 2 {
		l = append(l, api.Range{Lo: n[i], Hi: n[i+1]})
	}
	return l
}

// The nodes, for short.
func empty() api.Node              { return api.Node{Op: api.Empty} }
func set(i int) api.Node           { return api.Node{Op: api.Set, Set: i} }
func cat(x, y int) api.Node        { return api.Node{Op: api.Cat, A: x, B: y} }
func alt(x, y int) api.Node        { return api.Node{Op: api.Alt, A: x, B: y} }
func rep(x, lo, hi int) api.Node   { return api.Node{Op: api.Rep, A: x, Lo: lo, Hi: hi} }
func nodes(n ...api.Node) api.Tree { return api.Tree{Nodes: n, Root: len(n) - 1} }

// with is a tree with sets.
func with(t api.Tree, sets ...[]api.Range) api.Tree {
	t.Sets = sets
	return t
}

// rooted is a tree with another Root.
func rooted(t api.Tree, root int) api.Tree {
	t.Root = root
	return t
}

// copied is a tree that shares no memory with another one.
func copied(t api.Tree) api.Tree {
	c := api.Tree{Nodes: slices.Clone(t.Nodes), Root: t.Root}
	for _, l := range t.Sets {
		c.Sets = append(c.Sets, slices.Clone(l))
	}
	return c
}

// equal tells whether two trees have one by one the same nodes, sets and Root.
func equal(a, b api.Tree) bool {
	return a.Root == b.Root && slices.Equal(a.Nodes, b.Nodes) && slices.EqualFunc(a.Sets, b.Sets, slices.Equal[[]api.Range])
}

// chain is a first node, and as many behind it as are asked for, each of the one ahead of it.
func chain(first api.Node, n int, more func(i int) api.Node) api.Tree {
	l := []api.Node{first}
	for i := range n {
		l = append(l, more(i))
	}
	return nodes(l...)
}

// double has as many levels as are asked for, each with the one below twice.
func double(i int) api.Node { return cat(i, i) }

// edges are numbers from the whole range.
func edges() []int {
	return []int{math.MinInt, math.MinInt + 1, -(1 << 32), -256, -2, -1, 0, 1, 2, 3, 4, 5, 6, 254, 255, 256, 257, 4095, 4096, 4097, 1<<32 + 1, math.MaxInt - 1, math.MaxInt}
}

// next tells numbers below one, the same ones each time.
func next(state *uint64, n int) int {
	*state = *state*6364136223846793005 + 1442695040888963407
	return int(*state >> 33 % uint64(n))
}

// someSets are a few sets, some of them the same.
func someSets(state *uint64) [][]api.Range {
	all := [][]api.Range{nil, of(97, 97), of(97, 98), of(97, 97, 99, 99), of(0, top), of(0, 0), of(top, top), of(97, 97, 99, 100)}
	var l [][]api.Range
	for range next(state, 6) {
		l = append(l, slices.Clone(all[next(state, len(all))]))
	}
	return l
}

// someTree is a tree that may be, of up to so many nodes, whose unfolding is short.
func someTree(state *uint64, most int) api.Tree {
	t := api.Tree{Sets: someSets(state)}
	for i := range 1 + next(state, most) {
		n := empty()
		switch kind := next(state, 6); {
		case i > 0 && kind == 1:
			n = cat(next(state, i), next(state, i))
		case i > 0 && kind == 2:
			n = alt(next(state, i), next(state, i))
		case i > 0 && kind == 3:
			n = rep(next(state, i), next(state, 2), 1+next(state, 2))
		case i > 0 && kind == 4:
			n = rep(next(state, i), next(state, 2), -1)
		case len(t.Sets) > 0:
			n = set(next(state, len(t.Sets)))
		}
		t.Nodes = append(t.Nodes, n)
	}
	t.Root = len(t.Nodes) - 1 - next(state, min(3, len(t.Nodes)))
	return t
}

// unfold tells a node and all of its parts, as numbers in a row, from the document's words; what it tells is what Same may see of it.
func unfold(t api.Tree, i int) []int {
	n := t.Nodes[i]
	l := []int{n.Op}
	switch n.Op {
	case api.Set:
		for _, r := range t.Sets[n.Set] {
			l = append(l, 1, r.Lo, r.Hi)
		}
		return append(l, 0)
	case api.Cat, api.Alt:
		return slices.Concat(l, unfold(t, n.A), unfold(t, n.B))
	case api.Rep:
		return slices.Concat(l, []int{n.Lo, n.Hi}, unfold(t, n.A))
	}
	return l
}

// measured tells a node's depth and size, by going through all of it.
func measured(t api.Tree, i int) (int, int) {
	n := t.Nodes[i]
	switch n.Op {
	case api.Cat, api.Alt:
		d, s := measured(t, n.A)
		e, r := measured(t, n.B)
		return max(d, e) + 1, s + r + 1
	case api.Rep:
		d, s := measured(t, n.A)
		return d + 1, s + 1
	}
	return 1, 1
}

// P10.1: trees that may be.
func TestCheck(t *testing.T) {
	for _, c := range []api.Tree{
		nodes(empty()), with(nodes(set(0)), nil), with(nodes(set(0)), []api.Range{}), with(nodes(set(1)), of(1, 2), of(0, top)), with(nodes(empty()), of(97, 99, 101, 101)),
		nodes(empty(), cat(0, 0)), nodes(empty(), alt(0, 0)), nodes(empty(), empty(), cat(1, 0)), nodes(empty(), empty(), alt(0, 1)), rooted(nodes(empty(), cat(0, 0)), 0),
		nodes(empty(), rep(0, 0, 0)), nodes(empty(), rep(0, 0, -1)), nodes(empty(), rep(0, 255, -1)), nodes(empty(), rep(0, 255, 255)), nodes(empty(), rep(0, 0, 255)), nodes(empty(), rep(0, 7, 8), rep(1, 7, 7)),
		with(nodes(set(0), rep(0, 0, -1)), of(97, 97)), with(nodes(empty()), make([][]api.Range, 4096)...), nodes(slices.Repeat([]api.Node{empty()}, 4096)...), rooted(nodes(slices.Repeat([]api.Node{empty()}, 4096)...), 0),
		with(nodes(slices.Repeat([]api.Node{set(4095)}, 4096)...), make([][]api.Range, 4096)...), chain(empty(), 4095, double),
	} {
		if e := Check(c); e != api.OK {
			t.Errorf("Check of a tree of %d nodes, which ends with %v: %v", len(c.Nodes), c.Nodes[len(c.Nodes)-1], e)
		}
	}
}

// bad are trees that may not be, none of them too big.
func bad() []api.Tree {
	one := nodes(empty())
	return []api.Tree{
		{}, {Nodes: []api.Node{}}, {Root: -1}, {Sets: [][]api.Range{of(1, 2)}}, rooted(one, 1), rooted(one, -1), rooted(one, math.MinInt), rooted(one, math.MaxInt), rooted(one, 1<<32),
		nodes(set(0)), with(nodes(set(1)), of(1, 2)), with(nodes(set(-1)), of(1, 2)), with(nodes(set(math.MinInt)), nil), with(nodes(set(math.MaxInt)), nil),
		with(one, of(2, 1)), with(one, of(-1, 5)), with(one, of(0, top+1)), with(one, of(3, 4, 1, 1)), with(one, of(1, 2, 3, 4)), with(one, of(1, 2, 2, 4)), with(one, nil, of(1, 2), of(9, 8)), with(one, of(math.MinInt, math.MaxInt)), with(nodes(set(0)), of(1, 1), of(5, 4)),
		nodes(cat(0, 0)), nodes(alt(0, 0)), nodes(rep(0, 0, 1)), nodes(empty(), cat(0, 1)), nodes(empty(), cat(1, 0)), nodes(empty(), alt(0, -1)), nodes(empty(), alt(-1, 0)), nodes(empty(), cat(0, 2), empty()), nodes(empty(), rep(1, 0, 1)), nodes(empty(), rep(-1, 0, 1)), nodes(empty(), rep(2, 0, 1), empty()),
		nodes(empty(), rep(0, -1, 1)), nodes(empty(), rep(0, -1, -1)), nodes(empty(), rep(0, 2, 1)), nodes(empty(), rep(0, 1, 0)), nodes(empty(), rep(0, 0, -2)), nodes(empty(), rep(0, 0, 256)), nodes(empty(), rep(0, 256, 256)), nodes(empty(), rep(0, 256, -1)), nodes(empty(), rep(0, 1<<32, -1)), nodes(empty(), rep(0, math.MinInt, math.MaxInt)), nodes(empty(), rep(0, math.MaxInt, math.MaxInt)),
		nodes(api.Node{}), nodes(api.Node{Op: -1}), nodes(api.Node{Op: 6}), nodes(api.Node{Op: math.MinInt}), nodes(api.Node{Op: math.MaxInt}), nodes(api.Node{Op: 1<<32 + 1}),
		nodes(api.Node{}, empty()), rooted(nodes(empty(), api.Node{}), 0), rooted(nodes(empty(), cat(1, 0)), 0), rooted(nodes(slices.Repeat([]api.Node{empty()}, 4096)...), 4096),
	}
}

// P10.1: trees that may not be.
func TestCheckBad(t *testing.T) {
	fine := nodes(empty())
	for _, c := range bad() {
		if e := Check(c); e != api.ErrForm {
			t.Errorf("Check(%v): %v", c, e)
		}
		if d, s := Depth(c), Size(c); d != 0 || s != 0 {
			t.Errorf("Depth, Size of %v: %d, %d", c, d, s)
		}
		if Same(c, c) || Same(c, fine) || Same(fine, c) {
			t.Errorf("Same of %v, which may not be", c)
		}
	}
}

// P10.1: trees that are too big, whatever else is wrong.
func TestCheckBig(t *testing.T) {
	fine := nodes(slices.Repeat([]api.Node{empty()}, 4096)...)
	for _, c := range []api.Tree{
		nodes(slices.Repeat([]api.Node{empty()}, 4097)...), {Nodes: make([]api.Node, 4097)}, {Nodes: make([]api.Node, 1<<17), Root: -1}, {Sets: make([][]api.Range, 4097)}, {Sets: make([][]api.Range, 1<<17)},
		with(fine, make([][]api.Range, 4097)...), with(nodes(empty()), make([][]api.Range, 4097)...), with(nodes(set(0)), slices.Repeat([][]api.Range{of(2, 1)}, 4097)...), with(rooted(fine, 4096), make([][]api.Range, 4097)...), with(nodes(make([]api.Node, 4097)...), make([][]api.Range, 4097)...),
	} {
		if e := Check(c); e != api.ErrBig || Depth(c) != 0 || Size(c) != 0 || Same(c, c) {
			t.Errorf("Check of %d nodes, %d sets: %v", len(c.Nodes), len(c.Sets), e)
		}
	}
}

// may tells whether a node may be, field by field.
func may(n api.Node, at, sets int) bool {
	if n.Op != api.Set && n.Set != 0 || n.Op != api.Rep && (n.Lo != 0 || n.Hi != 0) {
		return false
	}
	ahead := func(x int) bool { return 0 <= x && x < at }
	switch n.Op {
	case 1:
		return n.A == 0 && n.B == 0
	case 2:
		return n.A == 0 && n.B == 0 && 0 <= n.Set && n.Set < sets
	case 3, 4:
		return ahead(n.A) && ahead(n.B)
	case 5:
		return ahead(n.A) && n.B == 0 && 0 <= n.Lo && n.Lo < 256 && (n.Hi == -1 || n.Lo <= n.Hi && n.Hi < 256)
	}
	return false
}

// P10.1: each field of each kind of node, and each two of them, put to each edge.
func TestCheckFields(t *testing.T) {
	fields := []func(n *api.Node) *int{
		func(n *api.Node) *int { return &n.Op }, func(n *api.Node) *int { return &n.A }, func(n *api.Node) *int { return &n.B },
		func(n *api.Node) *int { return &n.Lo }, func(n *api.Node) *int { return &n.Hi }, func(n *api.Node) *int { return &n.Set },
	}
	good := 0
	for _, was := range []api.Node{empty(), set(0), set(2), cat(0, 3), cat(2, 1), alt(3, 0), rep(3, 0, -1), rep(1, 2, 5), rep(0, 255, 255)} {
		for i, f := range fields {
			for _, g := range fields[i:] {
				for _, x := range edges() {
					for _, y := range edges() {
						n := was
						*f(&n), *g(&n) = x, y
						c := with(nodes(empty(), empty(), set(1), empty(), n, empty()), nil, of(97, 99), of(1, 1))
						if is := Check(c) == api.OK; is != may(n, 4, 3) {
							t.Fatalf("Check with the node %v at 4: %v", n, Check(c))
						} else if is {
							good++
						}
					}
				}
			}
		}
	}
	if good < 1000 {
		t.Errorf("only %d that may be", good)
	}
}

// P10.1: depth and size, by hand.
func TestDepthSize(t *testing.T) {
	for _, c := range []struct {
		t           api.Tree
		depth, size int
	}{
		{nodes(empty()), 1, 1}, {with(nodes(set(0)), of(97, 97)), 1, 1}, {with(nodes(set(0), rep(0, 0, -1)), of(97, 97)), 2, 2}, {nodes(empty(), rep(0, 5, 9)), 2, 2}, {nodes(empty(), cat(0, 0)), 2, 3}, {nodes(empty(), alt(0, 0)), 2, 3},
		{nodes(empty(), rep(0, 0, 1), cat(1, 0)), 3, 4}, {nodes(empty(), rep(0, 0, 1), cat(0, 1)), 3, 4}, {nodes(empty(), rep(0, 0, 1), alt(1, 1)), 3, 5}, {rooted(nodes(empty(), rep(0, 0, 1), alt(1, 1)), 0), 1, 1}, {rooted(nodes(empty(), rep(0, 0, 1), alt(1, 1)), 1), 2, 2},
		{nodes(empty(), rep(0, 0, 1), rep(1, 0, 1), empty()), 1, 1}, {chain(empty(), 4095, func(i int) api.Node { return rep(i, 0, 1) }), 4096, 4096}, {chain(empty(), 4095, func(i int) api.Node { return cat(i, 0) }), 4096, 8191}, {chain(empty(), 4095, func(i int) api.Node { return alt(0, i) }), 4096, 8191},
		{chain(empty(), 18, double), 19, 1<<19 - 1}, {chain(empty(), 19, double), 20, 1<<20 - 1}, {chain(empty(), 20, double), 21, 1 << 20}, {chain(empty(), 21, double), 22, 1 << 20}, {chain(empty(), 4095, double), 4096, 1 << 20},
		{chain(empty(), 20, func(i int) api.Node { return []api.Node{cat(i, i), rep(i, 0, 1)}[i/19] }), 21, 1 << 20}, {chain(empty(), 21, func(i int) api.Node { return []api.Node{cat(i, i), rep(i, 0, 1)}[i/19] }), 22, 1 << 20}, {rooted(chain(empty(), 4095, double), 10), 11, 2047},
	} {
		if d, s := Depth(c.t), Size(c.t); d != c.depth || s != c.size {
			t.Errorf("Depth, Size of %d nodes: %d, %d, not %d, %d", len(c.t.Nodes), d, s, c.depth, c.size)
		}
	}
}

// P10.1: depth and size of trees of all kinds, each part gone through each time.
func TestDepthSizeMany(t *testing.T) {
	state := uint64(10)
	for i := range 3000 {
		c := someTree(&state, 1+i%14)
		d, s := measured(c, c.Root)
		if Depth(c) != d || Size(c) != s {
			t.Fatalf("Depth, Size of %v: %d, %d, not %d, %d", c, Depth(c), Size(c), d, s)
		}
	}
}

// P10.1: trees that are the same, by hand.
func TestSame(t *testing.T) {
	a, b := of(97, 97), of(98, 98)
	for _, c := range [][2]api.Tree{
		{nodes(empty()), nodes(empty())}, {nodes(empty()), nodes(empty(), rep(0, 0, 1), empty())}, {nodes(empty(), rep(0, 0, 1)), rooted(nodes(empty(), rep(0, 0, 1), cat(0, 1)), 1)}, {nodes(empty()), with(nodes(empty()), a, b)},
		{with(nodes(set(0)), a), with(nodes(set(1)), b, a)}, {with(nodes(set(0)), a, a), with(nodes(set(1)), a, a)}, {with(nodes(set(0)), nil), with(nodes(set(0)), []api.Range{})}, {with(nodes(set(0), set(0), cat(0, 1)), a), with(nodes(set(0), set(1), cat(0, 1)), a, a)},
		{with(nodes(set(0), cat(0, 0)), a), with(nodes(set(0), set(0), cat(0, 1)), a)}, {with(nodes(set(0), set(1), alt(0, 1)), a, b), with(nodes(set(0), set(1), alt(1, 0)), b, a)}, {nodes(empty(), rep(0, 0, 1), cat(1, 1)), nodes(empty(), empty(), rep(1, 0, 1), rep(0, 0, 1), cat(2, 3))},
		{with(nodes(set(0), rep(0, 2, -1)), of(97, 97, 99, 100)), with(nodes(empty(), set(1), rep(1, 2, -1)), a, of(97, 97, 99, 100))}, {chain(empty(), 4095, double), chain(empty(), 4095, double)}, {rooted(chain(empty(), 4095, double), 2000), chain(empty(), 2000, double)},
	} {
		if !Same(c[0], c[1]) || !Same(c[1], c[0]) || !Same(c[0], c[0]) || !Same(c[1], c[1]) {
			t.Errorf("Same of %d and %d nodes: false", len(c[0].Nodes), len(c[1].Nodes))
		}
	}
}

// P10.1: trees that are not the same, by hand.
func TestSameNot(t *testing.T) {
	a, b := of(97, 97), of(98, 98)
	last := chain(empty(), 4095, double)
	last.Nodes[1].Op = api.Alt
	for _, c := range [][2]api.Tree{
		{nodes(empty()), with(nodes(set(0)), nil)}, {nodes(empty()), nodes(empty(), rep(0, 1, 1))}, {with(nodes(set(0)), a), with(nodes(set(0)), b)}, {with(nodes(set(0)), a, b), with(nodes(set(1)), a, b)}, {with(nodes(set(0)), a), with(nodes(set(0)), nil)}, {with(nodes(set(0)), a), with(nodes(set(0)), of(97, 97, 99, 99))}, {with(nodes(set(0)), of(97, 98)), with(nodes(set(0)), of(97, 99))}, {with(nodes(set(0)), of(97, 99)), with(nodes(set(0)), of(98, 99))},
		{nodes(empty(), cat(0, 0)), nodes(empty(), alt(0, 0))}, {with(nodes(set(0), set(1), cat(0, 1)), a, b), with(nodes(set(0), set(1), cat(1, 0)), a, b)}, {with(nodes(set(0), set(1), alt(0, 1)), a, b), with(nodes(set(0), set(1), alt(1, 0)), a, b)}, {with(nodes(set(0), set(1), cat(0, 1)), a, b), with(nodes(set(0), set(1), cat(0, 0)), a, b)}, {with(nodes(set(0), set(1), cat(0, 1)), a, b), with(nodes(set(0), set(1), cat(1, 1)), a, b)},
		{nodes(empty(), rep(0, 0, 1)), nodes(empty(), rep(0, 1, 1))}, {nodes(empty(), rep(0, 0, 1)), nodes(empty(), rep(0, 0, 2))}, {nodes(empty(), rep(0, 0, 1)), nodes(empty(), rep(0, 0, -1))}, {nodes(empty(), rep(0, 0, 1)), nodes(empty(), rep(0, 0, 1), rep(1, 0, 1))}, {nodes(empty(), rep(0, 2, 3)), with(nodes(set(0), rep(0, 2, 3)), nil)},
		{nodes(empty(), cat(0, 0), cat(0, 1)), nodes(empty(), cat(0, 0), cat(1, 0))}, {nodes(empty(), cat(0, 0)), rooted(nodes(empty(), cat(0, 0)), 0)}, {chain(empty(), 4095, double), chain(empty(), 4094, double)}, {chain(empty(), 4095, double), last},
	} {
		if Same(c[0], c[1]) || Same(c[1], c[0]) {
			t.Errorf("Same of %v and %v: true", c[0].Nodes[:min(9, len(c[0].Nodes))], c[1].Nodes[:min(9, len(c[1].Nodes))])
		}
	}
}

// P10.1: trees of all kinds, held against each other by all of their parts.
func TestSameMany(t *testing.T) {
	state := uint64(101)
	same := 0
	for i := range 400 {
		var l []api.Tree
		for range 20 {
			l = append(l, someTree(&state, 1+i%7))
		}
		for _, a := range l {
			for _, b := range l {
				want := slices.Equal(unfold(a, a.Root), unfold(b, b.Root))
				if Same(a, b) != want {
					t.Fatalf("Same of %v and %v: %v", a, b, !want)
				} else if want && !equal(a, b) {
					same++
				}
			}
		}
	}
	if same < 1000 {
		t.Errorf("only %d pairs are the same without being equal", same)
	}
}

// P10.1: many sets, in other places, with long beginnings in common.
func TestSameSets(t *testing.T) {
	var rising, falling api.Tree
	for i := range 1000 {
		var l []api.Range
		for k := range 100 {
			l = append(l, api.Range{Lo: 3 * k, Hi: 3 * k})
		}
		l = append(l, api.Range{Lo: 1000 + i/2, Hi: 3000})
		rising.Sets, falling.Sets = append(rising.Sets, l), append(falling.Sets, l)
		rising.Nodes, falling.Nodes = append(rising.Nodes, set(i)), append(falling.Nodes, set(999-i))
	}
	slices.Reverse(falling.Sets)
	for i := range 999 {
		rising.Nodes, falling.Nodes = append(rising.Nodes, cat(999+i, 1+i)), append(falling.Nodes, cat(999+i, 1+i))
	}
	rising.Nodes[1000], falling.Nodes[1000] = cat(0, 1), cat(1, 0)
	rising.Root, falling.Root = len(rising.Nodes)-1, len(falling.Nodes)-1
	if !Same(rising, falling) {
		t.Errorf("Same of many sets: false")
	}
	falling.Nodes[700] = set(999 - 702)
	if Same(rising, falling) {
		t.Errorf("Same of many sets, one of which is another one: true")
	}
}

// P10.1: what is handed in stays as it was.
func TestCheckMemory(t *testing.T) {
	state := uint64(102)
	for range 200 {
		a, b := someTree(&state, 9), someTree(&state, 9)
		c, d := copied(a), copied(b)
		Check(a)
		Depth(a)
		Size(a)
		Same(a, b)
		if !equal(a, c) || !equal(b, d) {
			t.Fatalf("trees were changed: %v, %v", a, b)
		}
	}
}

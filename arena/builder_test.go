package arena

import (
	"math"
	"slices"
	"testing"

	"spool/api"
	"spool/ranges"
)

// tree is what a builder tells of a Root, which it must.
func tree(t *testing.T, b *Builder, root int) api.Tree {
	t.Helper()
	c, e := b.Tree(root)
	if e != api.OK || Check(c) != api.OK {
		t.Fatalf("Tree(%d): %v, %v", root, e, Check(c))
	}
	return c
}

// holds fails where a builder hasn't just those nodes and sets.
func holds(t *testing.T, b *Builder, n []api.Node, sets [][]api.Range) {
	t.Helper()
	if b.Len() != len(n) {
		t.Fatalf("Len: %d, not %d", b.Len(), len(n))
	}
	if len(n) == 0 {
		return
	}
	if c := tree(t, b, 0); !equal(c, api.Tree{Nodes: n, Sets: sets}) {
		t.Fatalf("Tree: %v, not %v, %v", c, n, sets)
	}
}

// P10.2: by hand.
func TestBuilder(t *testing.T) {
	b := New()
	holds(t, b, nil, nil)
	for i, x := range []int{b.Set(of(97, 97)), b.Rep(0, 0, -1), b.Empty(), b.Cat(1, 2), b.Alt(3, 0), b.Set(of(5, 9, 1, 2, 3, 4)), b.Set(nil), b.Rep(6, 255, 255), b.Set(of(97, 97)), b.Set(of(-5, 3, top, math.MaxInt, 9, 8)), b.Rep(0, 0, 0), b.Cat(10, 10), b.Set(of(9, 8))} {
		if x != i {
			t.Errorf("number %d: %d", i, x)
		}
	}
	holds(t, b, []api.Node{set(0), rep(0, 0, -1), empty(), cat(1, 2), alt(3, 0), set(1), set(2), rep(6, 255, 255), set(3), set(4), rep(0, 0, 0), cat(10, 10), set(5)}, [][]api.Range{of(97, 97), of(1, 9), nil, of(97, 97), of(0, 3, top, top), nil})
	for root, depth := range []int{1, 2, 1, 3, 4, 1, 1, 2, 1, 1, 2, 3, 1} {
		if c := tree(t, b, root); c.Root != root || len(c.Nodes) != 13 || len(c.Sets) != 6 || Depth(c) != depth {
			t.Errorf("Tree(%d): %v", root, c)
		}
	}
}

// P10.2: nodes that may not be, and Roots that are none.
func TestBuilderBad(t *testing.T) {
	b := New()
	none := func(what string, x ...int) {
		t.Helper()
		for _, i := range x {
			if i != -1 {
				t.Errorf("%s: %d", what, i)
			}
		}
	}
	none("of no nodes", b.Cat(0, 0), b.Alt(0, 0), b.Rep(0, 0, 1), b.Cat(-1, -1), b.Rep(-1, 0, 1))
	holds(t, b, nil, nil)
	b.Set(of(97, 97))
	b.Empty()
	want, sets := []api.Node{set(0), empty()}, [][]api.Range{of(97, 97)}
	for _, x := range edges() {
		is := x == 0 || x == 1
		if !is {
			none("a part", b.Cat(x, 0), b.Cat(0, x), b.Cat(x, x), b.Alt(x, 0), b.Alt(0, x), b.Alt(x, x), b.Rep(x, 0, 1))
		}
		for _, y := range edges() {
			if x < 0 || x > 255 || y < -1 || y > 255 || y >= 0 && y < x {
				none("times", b.Rep(0, x, y))
			} else if c := New(); c.Empty() != 0 || c.Rep(0, x, y) != 1 {
				t.Errorf("Rep from %d to %d: none", x, y)
			} else {
				holds(t, c, []api.Node{empty(), rep(0, x, y)}, nil)
			}
		}
		if c, e := b.Tree(x); (e == api.OK) != is || !is && (e != api.ErrNone || c.Nodes != nil || c.Sets != nil || c.Root != 0) {
			t.Errorf("Tree(%d): %v, %v", x, c, e)
		}
		holds(t, b, want, sets)
	}
}

// P10.2: a nil builder.
func TestNil(t *testing.T) {
	var b *Builder
	for _, x := range []int{b.Empty(), b.Set(nil), b.Set(of(97, 97)), b.Cat(0, 0), b.Alt(0, 0), b.Rep(0, 0, 1), b.Graft(nodes(empty())), b.Graft(api.Tree{})} {
		if x != -1 {
			t.Errorf("a nil builder's number: %d", x)
		}
	}
	for _, root := range []int{-1, 0, 1} {
		if c, e := b.Tree(root); e != api.ErrNone || c.Nodes != nil || c.Sets != nil || c.Root != 0 || b.Len() != 0 {
			t.Errorf("a nil builder's tree: %v, %v", c, e)
		}
	}
}

// P10.2: a builder without anything tells no tree.
func TestNone(t *testing.T) {
	for _, root := range []int{-1, 0, 1, math.MinInt, math.MaxInt} {
		if c, e := New().Tree(root); e != api.ErrNone || c.Nodes != nil || c.Sets != nil || c.Root != 0 {
			t.Errorf("Tree(%d): %v, %v", root, c, e)
		}
	}
}

// P10.2, P10.3: up to MaxNodes nodes, and none more, nor their sets.
func TestFull(t *testing.T) {
	b := New()
	for i := range 4096 {
		if x := b.Set(of(i, i)); x != i {
			t.Fatalf("Set: %d, not %d", x, i)
		}
	}
	if c := tree(t, b, 4095); len(c.Nodes) != 4096 || len(c.Sets) != 4096 || !slices.Equal(c.Sets[4095], of(4095, 4095)) {
		t.Errorf("Tree: %d nodes, %d sets", len(c.Nodes), len(c.Sets))
	}
	b = New()
	for i := range 4096 {
		if x := b.Empty(); x != i {
			t.Fatalf("Empty: %d, not %d", x, i)
		}
	}
	for _, x := range []int{b.Empty(), b.Set(of(1, 2)), b.Set(nil), b.Cat(0, 1), b.Alt(4095, 0), b.Rep(0, 0, -1), b.Graft(nodes(empty())), b.Graft(with(nodes(set(0)), of(1, 2)))} {
		if x != -1 {
			t.Errorf("a full builder's number: %d", x)
		}
	}
	holds(t, b, slices.Repeat([]api.Node{empty()}, 4096), nil)
}

// P10.2: a tree that was grafted stands behind what there is, whole.
func TestGraft(t *testing.T) {
	b := New()
	b.Set(of(5, 6))
	b.Cat(0, 0)
	one := with(rooted(nodes(set(1), rep(0, 2, 5), empty(), alt(1, 2), cat(3, 0), set(0), set(1)), 3), of(97, 97), of(98, 99, 200, 300), nil)
	if x := b.Graft(one); x != 5 || b.Len() != 9 {
		t.Fatalf("Graft: %d, Len: %d", x, b.Len())
	}
	want := []api.Node{set(0), cat(0, 0), set(2), rep(2, 2, 5), empty(), alt(3, 4), cat(5, 2), set(1), set(2)}
	sets := [][]api.Range{of(5, 6), of(97, 97), of(98, 99, 200, 300), nil}
	holds(t, b, want, sets)
	if !Same(tree(t, b, 5), one) {
		t.Errorf("what was grafted isn't the same")
	}
	if x := b.Graft(rooted(nodes(empty(), rep(0, 0, 1)), 0)); x != 9 {
		t.Errorf("Graft: %d", x)
	}
	if x := b.Set(of(7, 7)); x != 11 {
		t.Errorf("Set behind a Graft: %d", x)
	}
	holds(t, b, append(want, empty(), rep(9, 0, 1), set(4)), append(sets, of(7, 7)))
}

// P10.2: trees that may not be, or are too many, leave nothing.
func TestGraftBad(t *testing.T) {
	b := New()
	b.Set(of(5, 6))
	b.Empty()
	want, sets := []api.Node{set(0), empty()}, [][]api.Range{of(5, 6)}
	for _, c := range bad() {
		if x := b.Graft(c); x != -1 {
			t.Errorf("Graft of %v: %d", c, x)
		}
		holds(t, b, want, sets)
	}
	many := slices.Repeat([]api.Node{empty()}, 4097)
	for _, c := range []api.Tree{nodes(many...), nodes(many[:4096]...), nodes(many[:4095]...), rooted(nodes(many[:4095]...), 0), with(nodes(empty()), make([][]api.Range, 4097)...), with(nodes(empty()), make([][]api.Range, 4096)...), with(nodes(set(0)), slices.Repeat([][]api.Range{of(1, 2)}, 4096)...)} {
		if x := b.Graft(c); x != -1 {
			t.Errorf("Graft of %d nodes, %d sets: %d", len(c.Nodes), len(c.Sets), x)
		}
		holds(t, b, want, sets)
	}
	if x := b.Graft(with(nodes(many[:4094]...), make([][]api.Range, 4095)...)); x != 4095 || b.Len() != 4096 {
		t.Errorf("Graft of as many as there is room for: %d", x)
	}
	holds(t, b, append(want, many[:4094]...), append(sets, make([][]api.Range, 4095)...))
}

// P10.2, P10.3: where trees brought as many sets as may be, nodes but Sets go on.
func TestFullOfSets(t *testing.T) {
	b := New()
	if x := b.Graft(with(nodes(set(7)), slices.Repeat([][]api.Range{of(1, 2)}, 4095)...)); x != 0 {
		t.Fatalf("Graft: %d", x)
	}
	if x := b.Set(of(3, 3)); x != 1 {
		t.Errorf("the last Set: %d", x)
	}
	for _, x := range []int{b.Set(of(3, 3)), b.Set(nil), b.Graft(with(nodes(empty()), nil))} {
		if x != -1 {
			t.Errorf("a set more: %d", x)
		}
	}
	for i, x := range []int{b.Empty(), b.Cat(0, 1), b.Graft(nodes(empty())), b.Rep(4, 0, 1)} {
		if x != i+2 {
			t.Errorf("number %d: %d", i+2, x)
		}
	}
	holds(t, b, []api.Node{set(7), set(4095), empty(), cat(0, 1), empty(), rep(4, 0, 1)}, append(slices.Repeat([][]api.Range{of(1, 2)}, 4095), of(3, 3)))
}

// model is a builder as the document says it, without any limit met.
type model struct {
	n    []api.Node
	sets [][]api.Range
}

// add adds a node, if its parts are there.
func (m *model) add(n api.Node) int {
	if !may(n, len(m.n), len(m.sets)) {
		return -1
	}
	m.n = append(m.n, n)
	return len(m.n) - 1
}

// graft adds a tree.
func (m *model) graft(c api.Tree) int {
	at, first := len(m.n), len(m.sets)
	m.sets = append(m.sets, copied(c).Sets...)
	for _, n := range c.Nodes {
		switch n.Op {
		case api.Set:
			n.Set += first
		case api.Cat, api.Alt:
			n.A, n.B = n.A+at, n.B+at
		case api.Rep:
			n.A += at
		}
		m.n = append(m.n, n)
	}
	return c.Root + at
}

// P10.2, P10.3: calls of all kinds, one behind the other.
func TestBuilderMany(t *testing.T) {
	state := uint64(103)
	for range 300 {
		b, m := New(), &model{}
		for range 40 {
			x, y := next(&state, len(m.n)+2)-1, next(&state, len(m.n)+2)-1
			lo, hi := next(&state, 5)-1, next(&state, 5)-2
			l := of(next(&state, 9), next(&state, 12), next(&state, 9), next(&state, 12))
			c := someTree(&state, 6)
			var got, want int
			switch next(&state, 6) {
			case 0:
				got, want = b.Empty(), m.add(empty())
			case 1:
				m.sets = append(m.sets, ranges.Of(l...))
				got, want = b.Set(l), m.add(set(len(m.sets)-1))
			case 2:
				got, want = b.Cat(x, y), m.add(cat(x, y))
			case 3:
				got, want = b.Alt(x, y), m.add(alt(x, y))
			case 4:
				got, want = b.Rep(x, lo, hi), m.add(rep(x, lo, hi))
			case 5:
				got, want = b.Graft(c), m.graft(c)
				if !Same(tree(t, b, got), c) {
					t.Fatalf("Graft of %v isn't the same", c)
				}
			}
			if got != want {
				t.Fatalf("number: %d, not %d", got, want)
			}
			holds(t, b, m.n, m.sets)
		}
	}
}

// P10.3: what a builder told, grafted into itself and into another one, is the same.
func TestGraftOwn(t *testing.T) {
	b := New()
	x := b.Cat(b.Set(of(97, 99)), b.Rep(b.Empty(), 1, 3))
	for b.Len() < 2048 {
		c := tree(t, b, x)
		was := b.Len()
		y := b.Graft(c)
		if y != x+was || b.Len() != 2*was || !Same(tree(t, b, y), c) {
			t.Fatalf("Graft of a builder's own tree: %d, Len: %d", y, b.Len())
		}
		x = b.Alt(y, y)
		other := New()
		other.Empty()
		if z := other.Graft(c); !Same(tree(t, other, z), c) {
			t.Fatalf("Graft of another builder's tree: %d", z)
		}
	}
}

// P10.2: what is handed in stays as it was, and is not kept; what is handed out is nobody else's.
func TestBuilderMemory(t *testing.T) {
	l := append(make([]api.Range, 0, 4), of(9, 9, 5, 6)...)
	c := with(nodes(set(0), set(1), cat(0, 1)), append(make([]api.Range, 0, 4), of(1, 2)...), of(3, 4))
	wasList, wasTree := slices.Clone(l[:cap(l)]), copied(c)
	b := New()
	b.Set(l)
	b.Graft(c)
	want := []api.Node{set(0), set(1), set(2), cat(1, 2)}
	sets := [][]api.Range{of(5, 6, 9, 9), of(1, 2), of(3, 4)}
	if !slices.Equal(l[:cap(l)], wasList) || !equal(c, wasTree) || c.Sets[0][:4][3] != (api.Range{}) {
		t.Fatalf("arguments were changed: %v, %v", l, c)
	}
	spoil := func(c api.Tree) {
		for i := range c.Nodes[:cap(c.Nodes)] {
			c.Nodes[:cap(c.Nodes)][i] = api.Node{Op: 9}
		}
		for _, s := range c.Sets {
			for i := range s[:cap(s)] {
				s[:cap(s)][i] = api.Range{Lo: -9, Hi: -9}
			}
		}
		for i := range c.Sets[:cap(c.Sets)] {
			c.Sets[:cap(c.Sets)][i] = of(-9, -9)
		}
	}
	first, second := tree(t, b, 3), tree(t, b, 3)
	spoil(c)
	spoil(api.Tree{Sets: [][]api.Range{l}})
	spoil(first)
	holds(t, b, want, sets)
	b.Empty()
	b.Set(of(7, 7))
	if !equal(second, rooted(api.Tree{Nodes: want, Sets: sets}, 3)) {
		t.Errorf("a tree was changed by later calls: %v", second)
	}
	for i := range second.Sets {
		one := tree(t, b, 3)
		spoil(api.Tree{Sets: one.Sets[i : i+1 : i+1]})
		one.Sets[i] = sets[i]
		if !slices.EqualFunc(one.Sets[:3], sets, slices.Equal[[]api.Range]) {
			t.Errorf("set %d shows in another one", i)
		}
	}
	holds(t, b, append(want, empty(), set(3)), append(sets, of(7, 7)))
}

// P10.2: builders have nothing in common.
func TestTwoBuilders(t *testing.T) {
	a, b := New(), New()
	a.Set(of(1, 2))
	b.Empty()
	b.Empty()
	holds(t, a, []api.Node{set(0)}, [][]api.Range{of(1, 2)})
	holds(t, b, []api.Node{empty(), empty()}, nil)
}

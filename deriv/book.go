package deriv

import (
	"slices"

	"spool/api"
	"spool/arena"
)

// maxParts is how many unlike parts may come on the way.
const maxParts = 12288

// The numbers of the parts that a book has from its beginning on.
const (
	nothing = 0 // a Set of nothing
	empty   = 1
)

// book has the parts that were met, each one once, behind its own parts: a part's number is its place. All of them but nothing have a row.
type book struct {
	parts []api.Node
	sets  [][]api.Range
	bare  []bool // does a part have the empty row?
	met   map[api.Node]int
	full  bool // did more parts come than may?
}

// opened tells a new book.
func opened() *book {
	b := &book{met: map[api.Node]int{}}
	b.Set(nil)
	b.number(api.Node{Op: api.Empty}, true)
	return b
}

// number tells the number of a part, which is bare or not.
func (b *book) number(n api.Node, bare bool) int {
	if x, ok := b.met[n]; ok {
		return x
	}
	if len(b.parts) == maxParts {
		b.full = true
		return nothing
	}
	x := len(b.parts)
	b.met[n] = x
	b.parts, b.bare = append(b.parts, n), append(b.bare, bare)
	return x
}

// Empty tells the number of what has the empty row alone.
func (b *book) Empty() int { return empty }

// Set tells the number of a set's part.
func (b *book) Set(l []api.Range) int {
	i := slices.IndexFunc(b.sets, func(m []api.Range) bool { return slices.Equal(l, m) })
	if i < 0 {
		i = len(b.sets)
		b.sets = append(b.sets, l)
	}
	return b.number(api.Node{Op: api.Set, Set: i}, false)
}

// Cat tells the number of one part behind the other.
func (b *book) Cat(x, y int) int {
	switch {
	case x == nothing || y == nothing:
		return nothing
	case x == empty:
		return y
	case y == empty:
		return x
	}
	bare := b.bare[x] && b.bare[y]
	return b.number(api.Node{Op: api.Cat, A: x, B: y}, bare)
}

// Alt tells the number of one part or the other.
func (b *book) Alt(x, y int) int {
	// In either order they are the same. Behind this y is the one that may be nothing or empty, which stand ahead of all others.
	x, y = max(x, y), min(x, y)
	if x == y || y == nothing || y == empty && b.bare[x] {
		return x
	}
	bare := b.bare[x] || b.bare[y]
	return b.number(api.Node{Op: api.Alt, A: x, B: y}, bare)
}

// Rep tells the number of a part from lo to hi times.
func (b *book) Rep(x, lo, hi int) int {
	if b.bare[x] {
		// Each time may be the empty row, so that fewer times are no others.
		lo = 0
	}
	n := b.parts[x]
	switch {
	case hi == 0 || x == nothing && lo == 0:
		return empty
	case x == nothing || x == empty:
		return x
	case hi == 1 && (lo == 1 || b.bare[x]):
		return x
	case n == api.Node{Op: api.Rep, A: n.A, Hi: -1}:
		return x
	}
	return b.number(api.Node{Op: api.Rep, A: x, Lo: lo, Hi: hi}, lo == 0)
}

// fewer tells the number of what stands behind the first time of a Rep.
func (b *book) fewer(n api.Node) int {
	return b.Rep(n.A, max(n.Lo-1, 0), max(n.Hi-1, -1))
}

// tree tells one or another of some parts as a tree, and whether there was room for it.
func (b *book) tree(l ...int) (api.Tree, bool) {
	root := nothing
	for _, x := range l {
		root = b.Alt(root, x)
	}
	m := arena.New()
	t, e := m.Tree(made(m, api.Tree{Nodes: b.parts, Sets: b.sets, Root: root}))
	return t, e == api.OK && !b.full
}

// maker makes nodes, and tells their numbers: a book does, and arena's builder.
type maker interface {
	Empty() int
	Set(l []api.Range) int
	Cat(x, y int) int
	Alt(x, y int) int
	Rep(x, lo, hi int) int
}

// made makes a tree's Root, and ahead of it what that is made of, each node once and no other ones. It tells the Root's number.
func made(m maker, t api.Tree) int {
	done := map[int]int{}
	var node func(i int) int
	node = func(i int) int {
		x, ok := done[i]
		if ok {
			return x
		}
		switch n := t.Nodes[i]; n.Op {
		case api.Set:
			x = m.Set(t.Sets[n.Set])
		case api.Cat:
			x = m.Cat(node(n.A), node(n.B))
		case api.Alt:
			x = m.Alt(node(n.A), node(n.B))
		case api.Rep:
			x = m.Rep(node(n.A), n.Lo, n.Hi)
		default:
			x = m.Empty()
		}
		done[i] = x
		return x
	}
	return node(t.Root)
}

package arena

import (
	"slices"

	"spool/api"
	"spool/ranges"
)

// Builder is nodes, and sets.
type Builder struct {
	nodes []api.Node
	sets  [][]api.Range
}

// New makes a builder.
func New() *Builder { return &Builder{} }

// into hands a builder on to a method that adds something; a nil builder takes nothing.
func into[T any](b *Builder, add func(*Builder, T) int, what T) int {
	if b == nil {
		return -1
	}
	return add(b, what)
}

// room tells whether there is room for so many nodes and sets.
func (b *Builder) room(nodes, sets int) bool {
	return len(b.nodes)+nodes <= api.MaxNodes && len(b.sets)+sets <= api.MaxNodes
}

// node adds a node of sets that there are.
func (b *Builder) node(n api.Node) int {
	if !b.room(1, 0) || !mayBe(n, len(b.nodes), len(b.sets)) {
		return -1
	}
	b.nodes = append(b.nodes, n)
	return len(b.nodes) - 1
}

// set adds a set, and a node of it.
func (b *Builder) set(l []api.Range) int {
	// Trees that were grafted may have brought more sets than nodes.
	if !b.room(1, 1) {
		return -1
	}
	b.sets = append(b.sets, ranges.Of(l...))
	return b.node(api.Node{Op: api.Set, Set: len(b.sets) - 1})
}

// tree adds all nodes and sets of a tree.
func (b *Builder) tree(t api.Tree) int {
	if Check(t) != api.OK || !b.room(len(t.Nodes), len(t.Sets)) {
		return -1
	}
	var set []int
	for _, l := range t.Sets {
		set = append(set, len(b.sets))
		b.sets = append(b.sets, slices.Clone(l))
	}
	return through(t, set, b.node)
}

// Len tells how many nodes there are.
func (b *Builder) Len() int {
	if b == nil {
		return 0
	}
	return len(b.nodes)
}

// Empty adds a node of nothing.
func (b *Builder) Empty() int { return into(b, (*Builder).node, api.Node{Op: api.Empty}) }

// Set adds a set.
func (b *Builder) Set(l []api.Range) int { return into(b, (*Builder).set, l) }

// Cat adds one behind the other.
func (b *Builder) Cat(x, y int) int {
	return into(b, (*Builder).node, api.Node{Op: api.Cat, A: x, B: y})
}

// Alt adds one or the other.
func (b *Builder) Alt(x, y int) int {
	return into(b, (*Builder).node, api.Node{Op: api.Alt, A: x, B: y})
}

// Rep adds one so many times.
func (b *Builder) Rep(x, lo, hi int) int {
	return into(b, (*Builder).node, api.Node{Op: api.Rep, A: x, Lo: lo, Hi: hi})
}

// Graft adds a tree.
func (b *Builder) Graft(t api.Tree) int { return into(b, (*Builder).tree, t) }

// Tree tells a tree.
func (b *Builder) Tree(root int) (api.Tree, api.Errno) {
	if !below(b.Len(), root) {
		return api.Tree{}, api.ErrNone
	}
	t := api.Tree{Nodes: slices.Clone(b.nodes), Root: root}
	for _, l := range b.sets {
		t.Sets = append(t.Sets, slices.Clone(l))
	}
	return t, api.OK
}

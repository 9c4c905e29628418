package regprint

import (
	"slices"

	"spool/api"
	"spool/bracket"
	"spool/escape"
)

// part is a node in the text of another one, perhaps in brackets.
type part struct {
	node    int
	wrapped bool
}

// brackets tells how many brackets stand about a part.
func (x part) brackets() int {
	if x.wrapped {
		return 1
	}
	return 0
}

// parts tells a node's parts, in the order of its text.
func parts(t api.Tree, n api.Node) []part {
	of := func(x int, wrapped ...int) part {
		return part{x, slices.Contains(wrapped, t.Nodes[x].Op)}
	}
	switch n.Op {
	case api.Cat:
		return []part{of(n.A, api.Alt), of(n.B, api.Cat, api.Alt)}
	case api.Alt:
		return []part{of(n.A), of(n.B, api.Alt)}
	case api.Rep:
		return []part{of(n.A, api.Cat, api.Alt, api.Rep)}
	}
	return nil
}

// printer prints a tree that may be, piece by piece; write takes a piece, and tells whether there was room for it.
type printer struct {
	tree  api.Tree
	write func(string) bool
}

// node prints a node, and tells whether there was room. Where there was none nothing is gone through any more: of parts that stand in many places no end could be met.
func (p printer) node(i int) bool {
	n := p.tree.Nodes[i]
	switch n.Op {
	case api.Empty:
		return p.write("()")
	case api.Set:
		return p.write(set(p.tree.Sets[n.Set]))
	case api.Alt:
		return p.row(n, "|")
	case api.Rep:
		return p.row(n, "") && p.write(often(n.Lo, n.Hi))
	}
	return p.row(n, "")
}

// row prints a node's parts, with a text between them.
func (p printer) row(n api.Node, between string) bool {
	for k, x := range parts(p.tree, n) {
		if k > 0 && !p.write(between) || !p.part(x) {
			return false
		}
	}
	return true
}

// part prints a part.
func (p printer) part(x part) bool {
	if x.wrapped {
		return p.write("(") && p.node(x.node) && p.write(")")
	}
	return p.node(x.node)
}

// set tells a Set's text.
func set(l []api.Range) string {
	// Held against 128 ahead, since a greater number would wrap round to a byte.
	if c, one := escape.One(l); one && c < 128 && escape.Plain(byte(c)) {
		return string(rune(c))
	}
	return bracket.Text(l)
}

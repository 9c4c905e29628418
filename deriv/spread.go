package deriv

import (
	"slices"

	"spool/api"
	"spool/ranges"
)

// spot is a part, and what stands behind it.
type spot struct {
	part int
	rest int
}

// walk goes from spots to those of their parts, down to Sets, which take the number or don't; what is left behind one that does is its rest.
type walk struct {
	b    *book
	c    int
	met  map[spot]struct{}
	wait []spot
	left []int
}

// spread tells what is left as many parts, each of them the rest of a Set. Of a tree each of whose parts stands in one place these are no more than the places, however long a text is.
func (b *book) spread(l []int, c int) []int {
	w := walk{b: b, c: c, met: map[spot]struct{}{}}
	for _, x := range l {
		w.meet(x, empty)
	}
	for len(w.wait) > 0 && !b.full {
		last := len(w.wait) - 1
		s := w.wait[last]
		w.wait = w.wait[:last]
		n := b.parts[s.part]
		past(n.Op)(&w, n, s.rest)
	}
	slices.Sort(w.left)
	return slices.Compact(w.left)
}

// meet has a spot wait that was not met yet.
func (w *walk) meet(part, rest int) {
	s := spot{part, rest}
	if _, ok := w.met[s]; ok {
		return
	}
	// Spots are parts that come on the way, too, though they stand in no book.
	if len(w.met) == maxParts {
		w.b.full = true
		return
	}
	w.met[s] = struct{}{}
	w.wait = append(w.wait, s)
}

// past tells how a walk goes past a node of a kind.
func past(op int) func(w *walk, n api.Node, rest int) {
	return kind(op, (*walk).empty, (*walk).set, (*walk).cat, (*walk).alt, (*walk).rep)
}

// empty takes no number.
func (w *walk) empty(n api.Node, rest int) {}

// set takes the number, if it has it.
func (w *walk) set(n api.Node, rest int) {
	if ranges.Has(w.b.sets[n.Set], w.c) {
		w.left = append(w.left, rest)
	}
}

// cat goes to the first part, and to the second one where the first one may be no number at all.
func (w *walk) cat(n api.Node, rest int) {
	w.meet(n.A, w.b.Cat(n.B, rest))
	if w.b.bare[n.A] {
		w.meet(n.B, rest)
	}
}

// alt goes to both parts.
func (w *walk) alt(n api.Node, rest int) {
	w.meet(n.A, rest)
	w.meet(n.B, rest)
}

// rep goes to the first time alone. Where that may be no number at all, a later one takes it; but what is left then is left of the first one, too.
func (w *walk) rep(n api.Node, rest int) {
	w.meet(n.A, w.b.Cat(w.b.fewer(n), rest))
}

package deriv

import (
	"spool/api"
	"spool/ranges"
)

// step is one number, and what was reckoned to be left behind it, by parts.
type step struct {
	b    *book
	c    int
	done map[int]int
}

// whole tells what is left as one part, which is made of what is left of its parts. That is reckoned once of each, in however many places it stands.
func (b *book) whole(l []int, c int) []int {
	s := step{b: b, c: c, done: map[int]int{}}
	left := nothing
	for _, x := range l {
		left = b.Alt(left, s.left(x))
	}
	if left == nothing {
		return nil
	}
	return []int{left}
}

// left tells what is left of a part.
func (s *step) left(x int) int {
	if y, ok := s.done[x]; ok {
		return y
	}
	n := s.b.parts[x]
	y := reckoned(n.Op)(s, n)
	s.done[x] = y
	return y
}

// reckoned tells how what is left of a node of a kind is reckoned.
func reckoned(op int) func(s *step, n api.Node) int {
	return kind(op, (*step).empty, (*step).set, (*step).cat, (*step).alt, (*step).rep)
}

// empty leaves nothing.
func (s *step) empty(n api.Node) int { return nothing }

// set leaves the empty row, if it has the number.
func (s *step) set(n api.Node) int {
	if ranges.Has(s.b.sets[n.Set], s.c) {
		return empty
	}
	return nothing
}

// cat leaves what the first part leaves, and, where that may be no number at all, what the second one leaves.
func (s *step) cat(n api.Node) int {
	left := s.b.Cat(s.left(n.A), n.B)
	if s.b.bare[n.A] {
		left = s.b.Alt(left, s.left(n.B))
	}
	return left
}

// alt leaves what either part leaves.
func (s *step) alt(n api.Node) int { return s.b.Alt(s.left(n.A), s.left(n.B)) }

// rep leaves what the first time leaves. Where that may be no number at all, a later one takes it; but what is left then is left of the first one, too.
func (s *step) rep(n api.Node) int { return s.b.Cat(s.left(n.A), s.b.fewer(n)) }

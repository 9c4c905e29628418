package thompson

import (
	"slices"

	"spool/api"
	"spool/byteseq"
)

// seed is a state as all of them begin: it goes on by no byte, and to no other state, and tells no tag.
type seed struct{ api.NState }

// fresh makes a seed.
func fresh() seed { return seed{api.NState{Lo: -1, Hi: -1, To: -1, Tag: -1}} }

// by is a state that goes on by a byte of a range.
func (s seed) by(r api.Range, to int) api.NState {
	s.Lo, s.Hi, s.To = r.Lo, r.Hi, to
	return s.NState
}

// leads is a state that goes on by nothing.
func (s seed) leads(to ...int) api.NState {
	s.Eps = to
	return s.NState
}

// tells is a state that tells a tag.
func (s seed) tells(tag int) api.NState {
	s.Tag = tag
	return s.NState
}

// grower is an automaton that grows from where it ends to its start.
type grower struct{ api.Nfa }

// add adds states, and tells the last one's number.
func (g *grower) add(l ...api.NState) int {
	g.States = append(g.States, l...)
	return len(g.States) - 1
}

// lead lets a state go on by nothing to one more.
func (g *grower) lead(from, to int) {
	g.States[from].Eps = append(g.States[from].Eps, to)
}

// shape is a tree on its way into an automaton. Of each part there come as many states as it needs each time that it is gone through.
type shape struct {
	api.Tree
	bare []bool
	rows map[int][][]api.Range
	add  func(l ...api.NState) int
	lead func(from, to int)
}

// shapeOf makes a shape.
func shapeOf(t api.Tree, add func(l ...api.NState) int, lead func(from, to int)) *shape {
	return &shape{Tree: t, bare: bareOf(t), rows: map[int][][]api.Range{}, add: add, lead: lead}
}

// bareOf tells of each node whether it needs no state: then it has the empty row alone.
func bareOf(t api.Tree) []bool {
	l := make([]bool, len(t.Nodes))
	for i, n := range t.Nodes {
		switch n.Op {
		case api.Empty:
			l[i] = true
		case api.Cat:
			l[i] = l[n.A] && l[n.B]
		case api.Rep:
			l[i] = n.Lo == n.Hi && (n.Hi == 0 || l[n.A])
		}
	}
	return l
}

// part adds the states of a node, behind which comes a state, and tells which is the first of all.
func (s *shape) part(i, to int) int {
	// What needs no state may stand in more places than one can go to.
	if s.bare[i] {
		return to
	}
	switch n := s.Nodes[i]; n.Op {
	case api.Set:
		return s.set(n.Set, to)
	case api.Cat:
		return s.part(n.A, s.part(n.B, to))
	case api.Alt:
		return s.add(fresh().leads(s.part(n.A, to), s.part(n.B, to)))
	default:
		return s.rep(n, to)
	}
}

// set adds the states of a set.
func (s *shape) set(i, to int) int {
	// A set that stands in many places may be of far more ranges than it needs states.
	rows, ok := s.rows[i]
	if !ok {
		rows = byteseq.Of(s.Sets[i])
		s.rows[i] = rows
	}
	var firsts []int
	for _, row := range rows {
		firsts = append(firsts, chain(row, to, s.add))
	}
	if len(firsts) == 1 {
		return firsts[0]
	}
	return s.add(fresh().leads(firsts...))
}

// chain adds a state for each range of a row, from the last one on.
func chain(row []api.Range, to int, add func(l ...api.NState) int) int {
	for _, r := range slices.Backward(row) {
		to = add(fresh().by(r, to))
	}
	return to
}

// rep adds the states of what comes so many times.
func (s *shape) rep(n api.Node, to int) int {
	if n.Hi == -1 {
		to = s.anyTimes(n.A, to)
	} else {
		to = s.atMost(n.A, n.Hi-n.Lo, to)
	}
	for range n.Lo {
		to = s.part(n.A, to)
	}
	return to
}

// anyTimes adds the states of a node that comes any number of times.
func (s *shape) anyTimes(i, to int) int {
	again := s.add(fresh().leads(to))
	s.lead(again, s.part(i, again))
	return again
}

// atMost adds the states of a node that comes at most so many times.
func (s *shape) atMost(i, times, to int) int {
	// Each time leads to the end by itself, so that no way goes through all those that don't come.
	first := to
	for range times {
		first = s.add(fresh().leads(s.part(i, first), to))
	}
	return first
}

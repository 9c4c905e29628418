package subset

import (
	"spool/alphabet"
	"spool/api"
	"spool/bits"
	"spool/closure"
	"spool/settable"
)

// whole is how many numbers are compared at once: a state of an automaton that may be leads by no more classes.
const whole = 256

// alike tells whether two lists have the same numbers. They are compared as arrays, so that a state is compared whole.
func alike(a, b []int) bool {
	if len(a) != len(b) {
		return false
	}
	for len(a) > 0 {
		var x, y [whole]int
		n := copy(x[:], a)
		copy(y[:], b)
		if x != y {
			return false
		}
		a, b = a[n:], b[n:]
	}
	return true
}

// maker makes an automaton of one state: it has the one that may be in many, the first byte of each class, the sets that were met, and a row of those of them that are to be states.
type maker struct {
	api.Dfa
	many  api.Nfa
	first []int
	met   *settable.Table
	row   []bits.Set
}

// makerOf makes a maker of an automaton that may be, for at most so many states.
func makerOf(n api.Nfa, most int) *maker {
	m := &maker{many: n, met: settable.New(most)}
	m.Class, m.Width = alphabet.Of(ranges(n.States)...)
	m.first = alphabet.First(m.Class)
	return m
}

// ranges tells the ranges of bytes by which some states go on.
func ranges(l []api.NState) []api.Range {
	var out []api.Range
	for _, s := range l {
		if s.Lo != none {
			out = append(out, api.Range{Lo: s.Lo, Hi: s.Hi})
		}
	}
	return out
}

// members tells the states of a set.
func (m *maker) members(s bits.Set) []api.NState {
	var l []api.NState
	for _, i := range s.All() {
		l = append(l, m.many.States[i])
	}
	return l
}

// all makes all states from the first set on, and tells whether there was room.
func (m *maker) all(start bits.Set) bool {
	m.Start, _ = m.meet(start)
	for len(m.row) > 0 {
		// What comes onto the row meanwhile stands behind those that waited, not in their room.
		now := m.row[:len(m.row):len(m.row)]
		m.row = m.row[len(m.row):]
		for _, s := range now {
			if !m.state(s) {
				return false
			}
		}
	}
	return true
}

// meet tells the number of a set's state, and whether there was room. A set that was not met before waits on the row.
func (m *maker) meet(s bits.Set) (int, bool) {
	if s.Count() == 0 {
		return none, true
	}
	i, fresh := m.met.Put(s)
	if fresh {
		m.row = append(m.row, s)
	}
	return i, i != none
}

// state makes the state of a set, and tells whether there was room for those to which it leads.
func (m *maker) state(s bits.Set) bool {
	does := m.does(s)
	next := make([]int, m.Width)
	for k := range m.Width {
		to, ok := does(k)
		if !ok {
			return false
		}
		next[k] = to
	}
	m.Next = append(m.Next, next)
	m.Tag = append(m.Tag, closure.Best(m.many, s))
	return true
}

// does makes a closure that tells to which state a set leads by a class, and whether there was room for it.
func (m *maker) does(s bits.Set) func(k int) (int, bool) {
	// Classes that nothing in the set tells apart lead to one state, which is looked for once: mostly there are far fewer such kinds than classes.
	kind, _ := alphabet.Of(ranges(m.members(s))...)
	known := map[int]int{}
	return func(k int) (int, bool) {
		b := m.first[k]
		if to, ok := known[kind[b]]; ok {
			return to, true
		}
		set, _ := closure.Step(m.many, s, byte(b))
		to, ok := m.meet(set)
		known[kind[b]] = to
		return to, ok
	}
}

package closure

import (
	"spool/api"
	"spool/bits"
)

// walk goes through an automaton that may be: it has the states that were met, and a row of those of them that are to be followed.
type walk struct {
	api.Nfa
	met bits.Set
	row []int
}

// walkOf makes a walk that sets out from some states.
func walkOf(n api.Nfa, l ...int) *walk {
	w := &walk{Nfa: n, met: bits.New(len(n.States))}
	for _, i := range l {
		w.meet(i)
	}
	return w
}

// meet has a state followed, if it was not met before. A number for which there is no state has no room among those that are met.
func (w *walk) meet(i int) {
	if w.met.Add(i) {
		w.row = append(w.row, i)
	}
}

// follow does something with each state of the row, by which more may come onto it, and tells all states that were met.
func (w *walk) follow(do func(s api.NState)) bits.Set {
	for len(w.row) > 0 {
		last := len(w.row) - 1
		s := w.States[w.row[last]]
		w.row = w.row[:last]
		do(s)
	}
	return w.met
}

// byNothing meets the states that come by nothing.
func (w *walk) byNothing(s api.NState) {
	for _, to := range s.Eps {
		w.meet(to)
	}
}

// byAll meets the states that come by nothing, and by any byte.
func (w *walk) byAll(s api.NState) {
	w.byNothing(s)
	w.meet(s.To)
}

// each does something with each state of a set; numbers for which there is none are let go.
func each(n api.Nfa, s bits.Set, do func(x api.NState)) {
	for _, i := range s.All() {
		if i < len(n.States) {
			do(n.States[i])
		}
	}
}

// start tells the states that come by nothing from the first one.
func start(n api.Nfa) bits.Set {
	w := walkOf(n, n.Start)
	return w.follow(w.byNothing)
}

// step tells the states that come by a byte, and then by nothing.
func step(n api.Nfa, s bits.Set, c byte) bits.Set {
	w := walkOf(n)
	each(n, s, func(x api.NState) {
		if x.Lo <= int(c) && int(c) <= x.Hi {
			w.meet(x.To)
		}
	})
	return w.follow(w.byNothing)
}

// best tells the least tag of the states of a set.
func best(n api.Nfa, s bits.Set) int {
	tag := -1
	each(n, s, func(x api.NState) {
		// As a number without a sign -1 is above all tags.
		tag = int(min(uint(tag), uint(x.Tag)))
	})
	return tag
}

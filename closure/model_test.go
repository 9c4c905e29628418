package closure

import (
	"math"
	"slices"
	"testing"

	"spool/api"
	"spool/bits"
	"spool/regex"
	"spool/thompson"
)

// still is a state that does nothing.
func still() api.NState { return api.NState{Lo: -1, Hi: -1, To: -1, Tag: -1} }

// eps is a state that goes on by nothing.
func eps(to ...int) api.NState {
	s := still()
	s.Eps = to
	return s
}

// by is a state that goes on by a byte.
func by(lo, hi, to int) api.NState { return api.NState{Lo: lo, Hi: hi, To: to, Tag: -1} }

// tags is a state that has a tag.
func tags(tag int) api.NState {
	s := still()
	s.Tag = tag
	return s
}

// nfa is an automaton that starts at its first state.
func nfa(l ...api.NState) api.Nfa { return api.Nfa{States: l} }

// one is the automaton of an expression, whose tag is 3.
func one(t *testing.T, s string) api.Nfa {
	t.Helper()
	u, f := regex.Parse(s, nil, false)
	n, e := thompson.One(u, 3)
	if f != (api.Fault{}) || e != api.OK {
		t.Fatalf("%.99q: %v, %d", s, f, e)
	}
	return n
}

// model is an automaton as the document's words tell it, and by it sets of states are followed, from one to the next till none is lacking.
type model struct{ api.Nfa }

// byNothing are the states to which one comes by nothing from some.
func (m model) byNothing(l []int) []int {
	in := make([]bool, len(m.States))
	for _, i := range l {
		if i >= 0 && i < len(in) {
			in[i] = true
		}
	}
	for more := true; more; {
		more = false
		for i, s := range m.States {
			for _, to := range s.Eps {
				if in[i] && !in[to] {
					in[to], more = true, true
				}
			}
		}
	}
	var all []int
	for i, is := range in {
		if is {
			all = append(all, i)
		}
	}
	return all
}

// byByte are the states to which one comes by a byte from some, and then by nothing.
func (m model) byByte(l []int, c int) []int {
	var to []int
	for _, i := range l {
		if i >= 0 && i < len(m.States) && m.States[i].Lo != -1 && c >= m.States[i].Lo && c <= m.States[i].Hi {
			to = append(to, m.States[i].To)
		}
	}
	return m.byNothing(to)
}

// least is the least tag of some states.
func (m model) least(l []int) int {
	var tags []int
	for _, i := range l {
		if i >= 0 && i < len(m.States) && m.States[i].Tag >= 0 {
			tags = append(tags, m.States[i].Tag)
		}
	}
	if tags == nil {
		return -1
	}
	return slices.Min(tags)
}

// tells is the tag of a text.
func (m model) tells(text string) int {
	now := m.byNothing([]int{m.Start})
	for i := range len(text) {
		now = m.byByte(now, int(text[i]))
	}
	return m.least(now)
}

// alive tells whether one of some states is among those from which one comes to a tag, which are found from the tags backwards.
func (m model) alive(l []int) bool {
	good := make([]bool, len(m.States))
	for more := true; more; {
		more = false
		for i, s := range m.States {
			is := s.Tag >= 0 || s.Lo >= 0 && good[s.To] || slices.ContainsFunc(s.Eps, func(to int) bool { return good[to] })
			if is && !good[i] {
				good[i], more = true, true
			}
		}
	}
	return slices.ContainsFunc(l, func(i int) bool { return i >= 0 && i < len(good) && good[i] })
}

// next is a number below n.
func next(state *uint64, n int) int {
	*state = *state*6364136223846793005 + 1442695040888963407
	return int(*state >> 33 % uint64(n))
}

// bytes are bytes at edges, and some between.
func bytes() []int { return []int{0, 1, 'a', 'b', 'c', 'd', 127, 128, 254, 255} }

// some is an automaton of as many states.
func some(state *uint64, states int) api.Nfa {
	n := api.Nfa{Start: next(state, states)}
	// Some automata go on by nothing from few states, and some from most; some have a tag at few states, and some at most.
	often, tagged := 1+next(state, 6), 2+next(state, 2*states)
	for range states {
		s := still()
		if next(state, 3) > 0 {
			lo, hi := bytes()[next(state, 10)], bytes()[next(state, 10)]
			s.Lo, s.Hi, s.To = min(lo, hi), max(lo, hi), next(state, states)
		}
		for next(state, often+1) > 1 {
			s.Eps = append(s.Eps, next(state, states))
		}
		if next(state, tagged) == 0 {
			s.Tag = next(state, 5)
		}
		n.States = append(n.States, s)
	}
	return n
}

// picked are numbers below one.
func picked(state *uint64, n, below int) []int {
	var l []int
	for range n {
		l = append(l, next(state, below))
	}
	return l
}

// held fails where what a call tells of an automaton and a set isn't what the model tells.
func held(t *testing.T, n api.Nfa, s bits.Set) {
	t.Helper()
	m, l, room := model{n}, s.All(), s.Room()
	if k := Best(n, s); k != m.least(l) {
		t.Fatalf("Best of %v, %v: %d, not %d", n, l, k, m.least(l))
	}
	if is := Alive(n, s); is != m.alive(l) {
		t.Fatalf("Alive of %v, %v: %v", n, l, is)
	}
	for _, c := range bytes() {
		to, e := Step(n, s, byte(c))
		isSet(t, "Step", n, to, e, m.byByte(l, c))
	}
	if !slices.Equal(s.All(), l) || s.Room() != room {
		t.Fatalf("%v: the set %v was changed: %v", n, l, s.All())
	}
	closed := s.Copy()
	if e := Close(n, closed); e != api.OK {
		t.Fatalf("Close of %v, %v: %d", n, l, e)
	}
	if want := bits.Of(room, append(m.byNothing(l), l...)...); !closed.Same(want) || closed.Room() != room {
		t.Fatalf("Close of %v, %v: %v, not %v", n, l, closed.All(), want.All())
	}
}

// isSet fails where a call doesn't tell some states, with room for all.
func isSet(t *testing.T, what string, n api.Nfa, s bits.Set, e api.Errno, want []int) {
	t.Helper()
	if e != api.OK || !slices.Equal(s.All(), want) || s.Room() != len(n.States) {
		t.Fatalf("%s of %v: %v, room %d, %d, not %v", what, n, s.All(), s.Room(), e, want)
	}
}

// started fails where Start, or Run of some texts, isn't what the model tells, or isn't what comes step by step.
func started(t *testing.T, n api.Nfa, texts ...string) {
	t.Helper()
	m := model{n}
	s, e := Start(n)
	isSet(t, "Start", n, s, e, m.byNothing([]int{n.Start}))
	for _, text := range texts {
		now, alive := s, true
		for i := range len(text) {
			alive = alive && Alive(n, now)
			now, _ = Step(n, now, text[i])
		}
		want := m.tells(text)
		if k, e := Run(n, text); e != api.OK || k != want || Best(n, now) != want || !alive && want != -1 {
			t.Fatalf("Run of %v, %.99q: %d, %d; step by step %d; alive %v; not %d", n, text, k, e, Best(n, now), alive, want)
		}
	}
}

// numbers are numbers from the whole range.
func numbers() []int {
	return []int{math.MinInt, math.MinInt + 1, math.MinInt32, -256, -2, -1, 0, 1, 2, 3, 4, 127, 128, 254, 255, 256, 257, math.MaxInt32, 1 << 32, 1<<32 + 1, math.MaxInt - 1, math.MaxInt}
}

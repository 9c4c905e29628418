package subset

import (
	"math"
	"slices"
	"strconv"
	"testing"

	"spool/api"
	"spool/regex"
	"spool/thompson"
)

// still is a state that does nothing.
func still() api.NState { return api.NState{Lo: -1, Hi: -1, To: -1, Tag: -1} }

// eps is a state that goes on by nothing.
func eps(to ...int) api.NState {
	s := still()
	s.Eps = to
	return s
}

// by is a state that goes on by a byte.
func by(lo, hi, to int) api.NState { return api.NState{Lo: lo, Hi: hi, To: to, Tag: -1} }

// tags is a state that has a tag.
func tags(tag int) api.NState {
	s := still()
	s.Tag = tag
	return s
}

// nfa is an automaton that starts at its first state.
func nfa(l ...api.NState) api.Nfa { return api.Nfa{States: l} }

// chain is an automaton of as many states, each of which leads to the next one by a; the last one has a tag.
func chain(states int) api.Nfa {
	var n api.Nfa
	for i := range states - 1 {
		n.States = append(n.States, by('a', 'a', i+1))
	}
	n.States = append(n.States, tags(7))
	return n
}

// tree is an expression's tree.
func tree(t *testing.T, s string) api.Tree {
	t.Helper()
	u, f := regex.Parse(s, nil, false)
	if f != (api.Fault{}) {
		t.Fatalf("%.99q: %v", s, f)
	}
	return u
}

// one is the automaton of an expression, whose tag is 3.
func one(t *testing.T, s string) api.Nfa {
	t.Helper()
	n, e := thompson.One(tree(t, s), 3)
	if e != api.OK {
		t.Fatalf("%.99q: %d", s, e)
	}
	return n
}

// model is an automaton that may be in many states, as the documents' words tell it.
type model struct{ api.Nfa }

// byNothing are the states to which one comes by nothing from some.
func (m model) byNothing(l []int) []int {
	in := make([]bool, len(m.States))
	for _, i := range l {
		in[i] = true
	}
	for more := true; more; {
		more = false
		for i, s := range m.States {
			for _, to := range s.Eps {
				if in[i] && !in[to] {
					in[to], more = true, true
				}
			}
		}
	}
	var all []int
	for i, is := range in {
		if is {
			all = append(all, i)
		}
	}
	return all
}

// byByte are the states to which one comes by a byte from some, and then by nothing.
func (m model) byByte(l []int, c int) []int {
	var to []int
	for _, i := range l {
		if s := m.States[i]; s.Lo != -1 && s.Lo <= c && c <= s.Hi {
			to = append(to, s.To)
		}
	}
	return m.byNothing(to)
}

// least is the least tag of some states.
func (m model) least(l []int) int {
	tag := -1
	for _, i := range l {
		if k := m.States[i].Tag; k >= 0 && (tag < 0 || k < tag) {
			tag = k
		}
	}
	return tag
}

// tells is the tag of a text.
func (m model) tells(text string) int {
	now := m.byNothing([]int{m.Start})
	for i := range len(text) {
		now = m.byByte(now, int(text[i]))
	}
	return m.least(now)
}

// apart tells whether a state goes on by just one of two bytes.
func (m model) apart(a, b int) bool {
	return slices.ContainsFunc(m.States, func(s api.NState) bool {
		return (s.Lo <= a && a <= s.Hi) != (s.Lo <= b && b <= s.Hi)
	})
}

// classes are the classes of bytes, and the first byte of each.
func (m model) classes() ([]int, []int) {
	var class, first []int
	for b := range 256 {
		k := slices.IndexFunc(first, func(a int) bool { return !m.apart(a, b) })
		if k < 0 {
			k = len(first)
			first = append(first, b)
		}
		class = append(class, k)
	}
	return class, first
}

// key is a text that lists with the same numbers alone have.
func key(l []int) string {
	out := ""
	for _, n := range l {
		out += strconv.Itoa(n) + " "
	}
	return out
}

// built is the automaton of one state, as the words tell it: false, if there would be more states than there may be.
func (m model) built() (api.Dfa, bool) {
	class, first := m.classes()
	d := api.Dfa{Class: class, Width: len(first)}
	sets := [][]int{m.byNothing([]int{m.Start})}
	where := map[string]int{key(nil): -1, key(sets[0]): 0}
	for i := 0; i < len(sets); i++ {
		var next []int
		for _, b := range first {
			to := m.byByte(sets[i], b)
			k, ok := where[key(to)]
			if !ok {
				k = len(sets)
				where[key(to)] = k
				sets = append(sets, to)
			}
			next = append(next, k)
		}
		d.Next, d.Tag = append(d.Next, next), append(d.Tag, m.least(sets[i]))
		if len(sets) > api.MaxDfa {
			return api.Dfa{}, false
		}
	}
	return d, true
}

// isOne fails where an automaton isn't another one, in all numbers.
func isOne(t *testing.T, what any, d, want api.Dfa) {
	t.Helper()
	if !equal(d, want) {
		t.Fatalf("of %v: %v, not %v", what, d, want)
	}
	if !Same(d, want) || !Same(want, d) {
		t.Fatalf("of %v: %v isn't the Same as itself", what, d)
	}
	if !Right(d) {
		t.Fatalf("of %v: %v isn't Right", what, d)
	}
}

// equal tells whether two automata have the same numbers.
func equal(a, b api.Dfa) bool {
	return slices.Equal(a.Class, b.Class) && a.Width == b.Width && slices.EqualFunc(a.Next, b.Next, slices.Equal) && slices.Equal(a.Tag, b.Tag) && a.Start == b.Start
}

// fails fails where an automaton isn't made into none, by a certain error.
func fails(t *testing.T, n api.Nfa, most int, want api.Errno) {
	t.Helper()
	d, e := Build(n, most)
	if e != want || d.Class != nil || d.Width != 0 || d.Next != nil || d.Tag != nil || d.Start != 0 {
		t.Fatalf("Build of %d states, from %d on, for at most %d: %d states, %d, not %d", len(n.States), n.Start, most, len(d.Next), e, want)
	}
}

// builds fails where an automaton isn't made into what the words tell, for at most as many states as may be, or as are needed; or where it is for fewer.
func builds(t *testing.T, n api.Nfa) api.Dfa {
	t.Helper()
	want, ok := model{n}.built()
	if !ok {
		fails(t, n, api.MaxDfa, api.ErrBig)
		fails(t, n, math.MaxInt, api.ErrBig)
		return want
	}
	states := len(want.Next)
	for _, most := range []int{math.MaxInt, states, api.MaxDfa} {
		d, e := Build(n, most)
		if e != api.OK {
			t.Fatalf("Build of %v for at most %d: %d", n, most, e)
		}
		isOne(t, n, d, want)
	}
	fails(t, n, states-1, api.ErrBig)
	return want
}

// copied is an automaton of one state that shares nothing with another one.
func copied(d api.Dfa) api.Dfa {
	d.Class, d.Next, d.Tag = slices.Clone(d.Class), slices.Clone(d.Next), slices.Clone(d.Tag)
	for i, row := range d.Next {
		d.Next[i] = slices.Clone(row)
	}
	return d
}

// right tells, number by number, whether an automaton of one state may be.
func right(d api.Dfa) bool {
	states := len(d.Next)
	if states > 1024 || len(d.Tag) != states || len(d.Class) != 256 || d.Start < -1 || d.Start >= states {
		return false
	}
	classes := 0
	for _, k := range d.Class {
		if k < 0 || k > classes {
			return false
		}
		classes = max(classes, k+1)
	}
	if d.Width != classes || slices.ContainsFunc(d.Tag, func(tag int) bool { return tag < -1 }) {
		return false
	}
	for _, row := range d.Next {
		if len(row) != classes || slices.ContainsFunc(row, func(to int) bool { return to < -1 || to >= states }) {
			return false
		}
	}
	return true
}

// goes is where an automaton comes from a state by a byte.
func goes(d api.Dfa, state int, c byte) int {
	if !right(d) || state < 0 || state >= len(d.Next) {
		return -1
	}
	return d.Next[state][d.Class[c]]
}

// ends is the tag of a text, by To and by what goes.
func ends(t *testing.T, d api.Dfa, text string) int {
	t.Helper()
	now := d.Start
	for i := range len(text) {
		to := goes(d, now, text[i])
		if k := To(d, now, text[i]); k != to {
			t.Fatalf("To of %v, %d, %d: %d, not %d", d, now, text[i], k, to)
		}
		now = to
	}
	if !right(d) || now == -1 {
		return -1
	}
	return d.Tag[now]
}

// runs fails where an automaton tells another tag of a text than that of where it comes.
func runs(t *testing.T, d api.Dfa, text string) int {
	t.Helper()
	want := ends(t, d, text)
	if k := Run(d, text); k != want {
		t.Fatalf("Run of %v, %.99q: %d, not %d", d, text, k, want)
	}
	return want
}

// next is a number below n.
func next(state *uint64, n int) int {
	*state = *state*6364136223846793005 + 1442695040888963407
	return int(*state >> 33 % uint64(n))
}

// edges are bytes at edges, and some between.
func edges() []int { return []int{0, 1, 'a', 'b', 'c', 'd', 127, 128, 254, 255} }

// text is a text of such bytes.
func text(state *uint64, length int) string {
	var l []byte
	for range length {
		l = append(l, byte(edges()[next(state, 10)]))
	}
	return string(l)
}

// some is an automaton of as many states, that may be in many.
func some(state *uint64, states int) api.Nfa {
	n := api.Nfa{Start: next(state, states)}
	// Some automata go on by nothing from few states, and some from most; some have a tag at few states, and some at most.
	often, tagged := 1+next(state, 6), 2+next(state, 2*states)
	for range states {
		s := still()
		if next(state, 4) > 0 {
			lo, hi := edges()[next(state, 10)], edges()[next(state, 10)]
			s.Lo, s.Hi, s.To = min(lo, hi), max(lo, hi), next(state, states)
		}
		for next(state, often+1) > 1 {
			s.Eps = append(s.Eps, next(state, states))
		}
		if next(state, tagged) == 0 {
			s.Tag = next(state, 5)
		}
		n.States = append(n.States, s)
	}
	return n
}

// dfa is an automaton of one state that may be, of as many states, with classes of as many ranges of bytes at most.
func dfa(state *uint64, states, ranges int) api.Dfa {
	var l []api.NState
	for range ranges {
		lo := next(state, 256)
		l = append(l, by(lo, min(lo+next(state, 1+next(state, 256)), 255), 0))
	}
	class, first := model{nfa(l...)}.classes()
	d := api.Dfa{Class: class, Width: len(first), Start: next(state, states+1) - 1}
	for range states {
		var row []int
		for range d.Width {
			row = append(row, next(state, states+1)-1)
		}
		d.Next, d.Tag = append(d.Next, row), append(d.Tag, next(state, 6)-1)
	}
	return d
}

// numbers are numbers from the whole range.
func numbers() []int {
	return []int{math.MinInt, math.MinInt + 1, -1 << 32, math.MinInt32, -256, -2, -1, 0, 1, 2, 3, 4, 127, 128, 254, 255, 256, 257, 1023, 1024, 1025, 4096, math.MaxInt32, 1 << 32, 1<<32 + 1, math.MaxInt - 1, math.MaxInt}
}

// places are where the numbers of an automaton of one state stand, all of them.
func places(d *api.Dfa) []*int {
	l := []*int{&d.Width, &d.Start}
	for _, row := range append([][]int{d.Class, d.Tag}, d.Next...) {
		for i := range row {
			l = append(l, &row[i])
		}
	}
	return l
}

// lists are the lists of numbers of an automaton of one state, all of them.
func lists(d *api.Dfa) []*[]int {
	l := []*[]int{&d.Class, &d.Tag}
	for i := range d.Next {
		l = append(l, &d.Next[i])
	}
	return l
}

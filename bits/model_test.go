package bits

import (
	"math"
	"slices"
	"testing"
)

// model is a set as the document's words tell it: for how many numbers there is room, and which ones are in it.
type model struct {
	room int
	in   map[int]bool
}

// modelOf is a model of some numbers.
func modelOf(room int, l ...int) model {
	m := model{room: room, in: map[int]bool{}}
	if room < 0 {
		m.room = 0
	}
	if room > 65536 {
		m.room = 65536
	}
	for _, n := range l {
		m.add(n)
	}
	return m
}

// add adds a number for which there is room, and tells whether it was not in it.
func (m model) add(n int) bool {
	if n < 0 || n >= m.room || m.in[n] {
		return false
	}
	m.in[n] = true
	return true
}

// drop takes a number out, and tells whether it was in it.
func (m model) drop(n int) bool {
	was := m.in[n]
	delete(m.in, n)
	return was
}

// join adds what there is room for, and tells whether something of that was not in it.
func (m model) join(o model) bool {
	more := false
	for n := range o.in {
		more = m.add(n) || more
	}
	return more
}

// same tells whether just the same numbers are in both.
func (m model) same(o model) bool { return slices.Equal(m.all(), o.all()) }

// all are the numbers, rising.
func (m model) all() []int {
	var l []int
	for n := range m.in {
		l = append(l, n)
	}
	slices.Sort(l)
	return l
}

// near are numbers at the edges of words, of rooms, of types, and beside some numbers and as far from them as a number cut short may be.
func near(l ...int) []int {
	out := []int{math.MinInt, math.MinInt + 1, -1 << 40, math.MinInt32, -65537, -65536, -65, -64, -63, -2, -1, 0, 1, 31, 32, 33, 62, 63, 64, 65, 127, 128, 129, 65534, 65535, 65536, 65537, math.MaxInt32, 1 << 32, 1 << 40, math.MaxInt - 63, math.MaxInt - 1, math.MaxInt}
	for _, n := range l {
		out = append(out, n-1, n, n+1, n+64, n-64, n+256, n-256, n+65536, n-65536, n+1<<31, n-1<<31, n+1<<32, n-1<<32, -n, ^n)
	}
	return out
}

// like fails where a set isn't what its model is.
func like(t *testing.T, s Set, m model) {
	t.Helper()
	want := m.all()
	if l := s.All(); !slices.Equal(l, want) {
		t.Fatalf("All of room %d: %v, not %v", m.room, l, want)
	}
	if s.Room() != m.room || s.Count() != len(want) {
		t.Fatalf("of room %d, %v: Room %d, Count %d", m.room, want, s.Room(), s.Count())
	}
	for _, n := range near(m.room) {
		if s.Has(n) != m.in[n] {
			t.Fatalf("of room %d, %v: Has(%d) is %v", m.room, want, n, s.Has(n))
		}
	}
	for _, n := range want {
		if !s.Has(n) {
			t.Fatalf("of room %d, %v: Has(%d) is false", m.room, want, n)
		}
	}
}

// next tells numbers below one, the same ones each time.
func next(state *uint64, n int) int {
	*state = *state*6364136223846793005 + 1442695040888963407
	return int(*state >> 33 % uint64(n))
}

// picked are numbers below one, the same ones for a state each time.
func picked(state *uint64, n, below int) []int {
	var l []int
	for range n {
		l = append(l, next(state, below))
	}
	return l
}

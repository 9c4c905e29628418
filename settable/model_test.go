package settable

import (
	"math"
	"slices"
	"strconv"
	"testing"

	"spool/bits"
)

// model is a table as the document's words tell it: for how many sets it was made, the sets' numbers in the order in which they were put, the rooms that they had, and which number each set has.
type model struct {
	most  int
	sets  [][]int
	rooms []int
	where map[string]int
}

// modelOf is a model of an empty table.
func modelOf(most int) *model {
	return &model{most: most, where: map[string]int{}}
}

// key is a text that sets with the same numbers alone have.
func key(l []int) string {
	out := ""
	for _, n := range l {
		out += strconv.Itoa(n) + " "
	}
	return out
}

// find tells a set's number.
func (m *model) find(s bits.Set) (int, bool) {
	if n, ok := m.where[key(s.All())]; ok {
		return n, true
	}
	return -1, false
}

// put puts a set.
func (m *model) put(s bits.Set) (int, bool) {
	if n, ok := m.find(s); ok {
		return n, false
	}
	n := len(m.sets)
	if n == m.most {
		return -1, false
	}
	m.where[key(s.All())] = n
	m.sets, m.rooms = append(m.sets, s.All()), append(m.rooms, s.Room())
	return n, true
}

// puts puts a set into a table and into its model, and fails where these answer unlike.
func (m *model) puts(t *testing.T, x *Table, s bits.Set) (int, bool) {
	t.Helper()
	want, new := m.put(s)
	n, fresh := x.Put(s)
	if n != want || fresh != new {
		t.Fatalf("Put of %v behind %d sets of %d: %d, %v, not %d, %v", s.All(), len(m.sets), m.most, n, fresh, want, new)
	}
	loaded(t, x, m)
	return n, fresh
}

// finds fails where a table and its model find a set unlike.
func (m *model) finds(t *testing.T, x *Table, s bits.Set) {
	t.Helper()
	want, is := m.find(s)
	if n, ok := x.Find(s); n != want || ok != is {
		t.Fatalf("Find of %v among %d sets of %d: %d, %v, not %d, %v", s.All(), len(m.sets), m.most, n, ok, want, is)
	}
}

// loaded fails where a table hasn't as many sets and places as it ought to have.
func loaded(t *testing.T, x *Table, m *model) {
	t.Helper()
	if n := x.Len(); n != len(m.sets) {
		t.Fatalf("Len of a table of %d: %d, not %d", m.most, n, len(m.sets))
	}
	if is := x.Full(); is != (len(m.sets) == m.most) {
		t.Fatalf("Full of a table of %d with %d sets: %v", m.most, len(m.sets), is)
	}
	places, taken := x.Load()
	// The third and the one are asked for together: that holds, too, where each is asked for alone.
	if free := places - taken; taken != len(m.sets) || 3*free < places+3 {
		t.Fatalf("Load of a table of %d with %d sets: %d, %d", m.most, len(m.sets), places, taken)
	}
}

// holds fails where the set of a number isn't one.
func holds(t *testing.T, x *Table, n int, l []int, room int) {
	t.Helper()
	if s, ok := x.Get(n); !ok || !slices.Equal(s.All(), l) || s.Room() != room {
		t.Fatalf("Get of %d: %v, of room %d, %v, not %v, of room %d", n, s.All(), s.Room(), ok, l, room)
	}
}

// lacks fails where a number has a set.
func lacks(t *testing.T, x *Table, n int) {
	t.Helper()
	if s, ok := x.Get(n); ok || s.Room() != 0 || s.All() != nil || s.Add(0) {
		t.Fatalf("Get of %d: %v, of room %d, %v", n, s.All(), s.Room(), ok)
	}
}

// like fails where a table isn't what its model is.
func like(t *testing.T, x *Table, m *model) {
	t.Helper()
	loaded(t, x, m)
	for n, l := range m.sets {
		holds(t, x, n, l, m.rooms[n])
		m.finds(t, x, bits.Of(m.rooms[n], l...))
	}
	for _, n := range none(len(m.sets)) {
		lacks(t, x, n)
	}
	places, taken := x.Load()
	if is := len(x.places) - len(slices.DeleteFunc(slices.Clone(x.places), func(n int) bool { return n != 0 })); places != len(x.places) || taken != is {
		t.Fatalf("Load: %d, %d, but there are %d places, and %d are taken", places, taken, len(x.places), is)
	}
}

// none are numbers that no set of so many has.
func none(n int) []int {
	return []int{math.MinInt, math.MinInt + 1, -1 << 40, math.MinInt32, -1 << 16, -8, -2, -1, n, n + 1, n + 8, n + 256, n + 1<<16, n + 1<<31, n + 1<<32, math.MaxInt32 + n, math.MaxInt - 1, math.MaxInt, n - 1<<32, -n - 1}
}

// next tells numbers below one, the same ones each time.
func next(state *uint64, n int) int {
	*state = *state*6364136223846793005 + 1442695040888963407
	return int(*state >> 33 % uint64(n))
}

// pair is one of 65536 sets, which are all unlike.
func pair(n int) bits.Set { return bits.Of(512, n%256, 256+n/256) }

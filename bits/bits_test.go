package bits

import (
	"math"
	"slices"
	"testing"
)

// P20.1: for how many numbers there is room.
func TestRoom(t *testing.T) {
	for _, x := range [][2]int{
		{math.MinInt, 0}, {math.MinInt + 1, 0}, {-65536, 0}, {-64, 0}, {-63, 0}, {-1, 0}, {0, 0}, {1, 1}, {2, 2}, {63, 63}, {64, 64}, {65, 65}, {127, 127}, {128, 128}, {129, 129}, {4096, 4096}, {65471, 65471}, {65472, 65472}, {65473, 65473}, {65534, 65534}, {65535, 65535}, {65536, 65536},
		{65537, 65536}, {65599, 65536}, {65600, 65536}, {131072, 65536}, {math.MaxInt32, 65536}, {1 << 32, 65536}, {1<<32 + 5, 65536}, {math.MaxInt - 63, 65536}, {math.MaxInt, 65536},
	} {
		for _, s := range []Set{New(x[0]), Of(x[0]), Of(x[0], -1, 65536), New(x[0]).Copy()} {
			like(t, s, modelOf(x[1]))
			last := x[1] - 1
			if s.Add(x[1]) || s.Add(last) != (last >= 0) || s.Has(last) != (last >= 0) || s.Room() != x[1] {
				t.Errorf("a set of room %d: Room %d, Has(%d) %v", x[0], s.Room(), last, s.Has(last))
			}
		}
	}
}

// P20.1: a set that nobody made has no room.
func TestNobodyMade(t *testing.T) {
	var s Set
	like(t, s, modelOf(0))
	for _, n := range near(0) {
		if s.Add(n) || s.Has(n) || s.Drop(n) {
			t.Errorf("%d has room", n)
		}
	}
	some := Of(200, 0, 64, 199)
	if s.Join(some) || s.Join(s) || some.Join(s) || some.Same(s) || s.Same(some) {
		t.Errorf("Join, Same of a set that nobody made")
	}
	if !s.Same(s) || !s.Same(New(0)) || !New(200).Same(s) || s.Hash() != New(0).Hash() || s.Hash() != s.Copy().Hash() {
		t.Errorf("Same, Hash of a set that nobody made")
	}
	like(t, s, modelOf(0))
	like(t, s.Copy(), modelOf(0))
	like(t, some, modelOf(200, 0, 64, 199))
}

// P20.1: by hand.
func TestOf(t *testing.T) {
	for _, x := range []struct {
		room int
		l    []int
		want []int
	}{
		{9, []int{3, 1, 12}, []int{1, 3}}, {9, nil, nil}, {9, []int{}, nil}, {0, []int{0, 1}, nil}, {-5, []int{-5, -1, 0, 5}, nil}, {1, []int{0}, []int{0}}, {1, []int{1, 0, -1}, []int{0}}, {9, []int{9, 8, 9, 8, 8}, []int{8}},
		{64, []int{64, 63, 0}, []int{0, 63}}, {65, []int{64, 63, 65, 128}, []int{63, 64}}, {66, []int{65, 66, 2, 1}, []int{1, 2, 65}}, {130, []int{129, 0, 64, 63, 5, 128, 130}, []int{0, 5, 63, 64, 128, 129}},
		{65536, []int{65535, 65536, 0, -1, 65535}, []int{0, 65535}}, {1 << 20, []int{65535, 65536, 1 << 19}, []int{65535}}, {200, []int{math.MinInt, math.MaxInt, 1 << 32, 1<<32 + 7, -1 << 32, 199, 200}, []int{199}}, {100, []int{-64, -63, 64 - 256, 99 + 65536}, nil},
	} {
		s := Of(x.room, x.l...)
		if l := s.All(); !slices.Equal(l, x.want) {
			t.Errorf("Of(%d, %v): %v", x.room, x.l, l)
		}
		like(t, s, modelOf(x.room, x.l...))
	}
}

// P20.1, P20.3: each number of each room, added and dropped, among others that stay.
func TestEachNumber(t *testing.T) {
	for room := range 200 {
		for _, others := range [][]int{nil, {0, 63, 64, 128}, rising(room)} {
			s, m := Of(room, others...), modelOf(room, others...)
			for n := -70; n < 270; n++ {
				for range 2 {
					if s.Has(n) != m.in[n] {
						t.Fatalf("of room %d: Has(%d) is %v", room, n, s.Has(n))
					}
					if got, want := s.Add(n), m.add(n); got != want {
						t.Fatalf("of room %d: Add(%d) is %v", room, n, got)
					}
				}
				like(t, s, m)
				if len(others) > 0 && n%3 == 0 {
					continue
				}
				for range 2 {
					if got, want := s.Drop(n), m.drop(n); got != want {
						t.Fatalf("of room %d: Drop(%d) is %v", room, n, got)
					}
				}
			}
			like(t, s, m)
		}
	}
}

// rising are the numbers from 0 on.
func rising(n int) []int {
	var l []int
	for i := range n {
		l = append(l, i)
	}
	return l
}

// P20.1: numbers from the whole range; none that has no room is in a set of all numbers.
func TestWholeRange(t *testing.T) {
	for _, room := range []int{0, 1, 5, 63, 64, 65, 130, 4096, 65535, 65536} {
		for _, l := range [][]int{nil, {room - 1}, {0, room / 2}, rising(room)} {
			s, m := Of(room, l...), modelOf(room, l...)
			for _, n := range near(room, 0, 5, 64) {
				if got, want := s.Drop(n), m.drop(n); got != want {
					t.Fatalf("of room %d: Drop(%d) is %v", room, n, got)
				}
				if got, want := s.Add(n), m.add(n); got != want {
					t.Fatalf("of room %d: Add(%d) is %v", room, n, got)
				}
			}
			like(t, s, m)
		}
	}
}

// few are sets of the same few numbers in rooms of many kinds, each with its model.
func few() ([]Set, []model) {
	var sets []Set
	var models []model
	for _, room := range []int{0, 1, 2, 63, 64, 65, 66, 128, 130, 65536} {
		for subset := range 64 {
			var l []int
			for i, n := range []int{0, 1, 63, 64, 65, 129} {
				if subset>>i&1 == 1 {
					l = append(l, n)
				}
			}
			if l != nil && l[len(l)-1] >= room {
				continue
			}
			sets, models = append(sets, Of(room, l...)), append(models, modelOf(room, l...))
		}
	}
	return sets, models
}

// P20.2: two sets of each kind are joined, and held against each other.
func TestTwo(t *testing.T) {
	sets, models := few()
	for i, a := range sets {
		for j, b := range sets {
			if got, want := a.Same(b), models[i].same(models[j]); got != want {
				t.Fatalf("Same of %v and %v: %v", a.All(), b.All(), got)
			}
			if a.Same(b) && a.Room() == b.Room() && a.Hash() != b.Hash() {
				t.Fatalf("Hash of %v, of room %d: %d, %d", a.All(), a.Room(), a.Hash(), b.Hash())
			}
			c, m := a.Copy(), modelOf(models[i].room, models[i].all()...)
			if got, want := c.Join(b), m.join(models[j]); got != want {
				t.Fatalf("Join of %v to %v, of room %d: %v", b.All(), a.All(), a.Room(), got)
			}
			if !slices.Equal(c.All(), m.all()) || c.Room() != a.Room() || c.Count() != len(m.in) {
				t.Fatalf("Join of %v to %v, of room %d: %v", b.All(), a.All(), a.Room(), c.All())
			}
			if c.Join(b) || c.Join(a) || c.Join(c) {
				t.Fatalf("Join of %v to %v, of room %d, a second time", b.All(), a.All(), a.Room())
			}
		}
	}
	for i, s := range sets {
		like(t, s, models[i])
	}
}

// P20.2: what is behind the last number for which there is room stays out, though its word has bits for it.
func TestJoinBehindRoom(t *testing.T) {
	for room := range 200 {
		for _, wide := range []int{room, room + 1, room + 63, room + 64, 300, 65536} {
			s, all := New(room), Of(wide, rising(wide)...)
			if s.Join(all) != (room > 0) || s.Join(all) {
				t.Fatalf("Join of %d numbers to room %d", wide, room)
			}
			like(t, s, modelOf(room, rising(room)...))
			if s.Same(all) != (room == wide) || all.Same(s) != (room == wide) {
				t.Fatalf("Same of %d numbers and %d", room, wide)
			}
			if all.Join(s) || all.Count() != wide {
				t.Fatalf("Join of %d numbers to all of room %d", room, wide)
			}
		}
	}
}

// P20.2: sets that have one number that the other has not, at each place.
func TestSameButOne(t *testing.T) {
	for _, l := range [][]int{nil, {0}, {7, 70, 190}, rising(200)} {
		for n := range 200 {
			a, b := Of(200, l...), Of(300, l...)
			if !a.Same(b) || !b.Same(a) {
				t.Fatalf("Same of %v twice", l)
			}
			if !b.Add(n) {
				b.Drop(n)
			}
			if a.Same(b) || b.Same(a) {
				t.Fatalf("Same of %v, and that but for %d", l, n)
			}
		}
	}
	if Of(5, 1).Same(Of(500, 1, 400)) || Of(500, 1, 400).Same(Of(5, 1)) || !Of(5, 1, 400).Same(Of(500, 1)) {
		t.Errorf("Same of sets of unlike rooms")
	}
}

// P20.2: a set's hash hangs on its numbers alone, however they came into it.
func TestHash(t *testing.T) {
	state := uint64(20)
	for i := range 500 {
		room := []int{1, 63, 64, 65, 130, 1000, 65536}[i%7]
		l := picked(&state, next(&state, 90), room)
		want := Of(room, l...)
		back := slices.Clone(l)
		slices.Reverse(back)
		far := New(room)
		for _, n := range picked(&state, 50, room) {
			far.Add(n)
		}
		far.Join(want)
		for _, n := range far.All() {
			if !want.Has(n) {
				far.Drop(n)
			}
		}
		for _, s := range []Set{Of(room, l...), Of(room, back...), Of(room, slices.Concat(l, back, []int{-1, room})...), want.Copy(), far} {
			if s.Hash() != want.Hash() || s.Hash() != want.Hash() || !s.Same(want) {
				t.Fatalf("Hash of %v: %d, %d", l, s.Hash(), want.Hash())
			}
		}
	}
}

// Beyond what is promised: unlike sets have unlike hashes, and sets that are the same in unlike rooms have the same one, as a table of sets would have it.
func TestHashApart(t *testing.T) {
	met := map[uint64][]int{}
	for _, places := range [][]int{{0, 1, 2, 3, 4, 5, 6, 7}, {56, 57, 58, 59, 60, 61, 62, 63}, {64, 65, 128, 129, 192, 193, 256, 257}, {0, 64, 128, 192, 256, 320, 384, 65535}} {
		for subset := range 256 {
			var l []int
			for i, n := range places {
				if subset>>i&1 == 1 {
					l = append(l, n)
				}
			}
			h := Of(65536, l...).Hash()
			if other, ok := met[h]; ok && !slices.Equal(other, l) {
				t.Fatalf("Hash of %v and of %v: %d", l, other, h)
			}
			met[h] = l
			if l != nil && Of(l[len(l)-1]+1, l...).Hash() != h {
				t.Fatalf("Hash of %v in a small room", l)
			}
		}
	}
	for n := range 65536 {
		h := Of(n+1, n).Hash()
		if other, ok := met[h]; ok && !slices.Equal(other, []int{n}) {
			t.Fatalf("Hash of %d and of %v: %d", n, other, h)
		}
		met[h] = []int{n}
	}
}

// P20.1, P20.2, P20.3: calls of all kinds upon some sets, one after the other.
func TestManyCalls(t *testing.T) {
	for seed := range uint64(60) {
		state := seed
		var sets []Set
		var models []model
		for range 5 {
			room := []int{0, 1, 40, 64, 65, 100, 192, 193, 1000, 65536}[next(&state, 10)]
			sets, models = append(sets, New(room)), append(models, modelOf(room))
		}
		for range 600 {
			i, j := next(&state, 5), next(&state, 5)
			n := next(&state, models[i].room+4) - 2
			got, want := false, false
			switch next(&state, 8) {
			case 0, 1, 2, 3:
				got, want = sets[i].Add(n), models[i].add(n)
			case 4, 5:
				if l := models[i].all(); l != nil {
					n = l[next(&state, len(l))]
				}
				got, want = sets[i].Drop(n), models[i].drop(n)
			case 6:
				got, want = sets[i].Join(sets[j]), models[i].join(models[j])
			case 7:
				sets[i], models[i] = sets[j].Copy(), modelOf(models[j].room, models[j].all()...)
				got, want = sets[i].Same(sets[j]), true
			}
			if got != want {
				t.Fatalf("seed %d: of room %d, %v, with %d: %v", seed, models[i].room, models[i].all(), n, got)
			}
			like(t, sets[i], models[i])
		}
		for i, s := range sets {
			like(t, s, models[i])
		}
	}
}

// P20.1, P20.2: a set that is handed on is the same one; a copy is one of its own.
func TestHandedOn(t *testing.T) {
	s := Of(130, 1, 128)
	also, c := s, s.Copy()
	if !also.Add(64) || !s.Has(64) || s.Add(64) || c.Has(64) || also.Count() != 3 {
		t.Errorf("Add by another name: %v, %v, a copy %v", s.All(), also.All(), c.All())
	}
	if !s.Drop(1) || also.Has(1) || !c.Has(1) || also.Drop(1) {
		t.Errorf("Drop by another name: %v, %v, a copy %v", s.All(), also.All(), c.All())
	}
	if !c.Add(129) || !c.Drop(128) || s.Has(129) || !s.Has(128) {
		t.Errorf("a copy's numbers are those of what it is a copy of: %v, %v", s.All(), c.All())
	}
	if !also.Join(Of(500, 2, 129, 400)) || !s.Has(2) || !s.Has(129) || c.Has(2) {
		t.Errorf("Join by another name: %v, %v, a copy %v", s.All(), also.All(), c.All())
	}
	like(t, s, modelOf(130, 2, 64, 128, 129))
	like(t, c, modelOf(130, 1, 129))
	if s.Join(also) || !s.Same(also) || s.Hash() != also.Hash() {
		t.Errorf("a set and itself by another name: %v, %v", s.All(), also.All())
	}
}

// P20.2: what is joined stays as it is, whatever is done to either set behind.
func TestJoinedIsApart(t *testing.T) {
	a, b := Of(200, 1), Of(300, 1, 70, 250)
	if !a.Join(b) {
		t.Errorf("Join added nothing")
	}
	like(t, b, modelOf(300, 1, 70, 250))
	b.Drop(70)
	b.Add(71)
	like(t, a, modelOf(200, 1, 70))
	a.Add(5)
	a.Drop(1)
	like(t, b, modelOf(300, 1, 71, 250))
}

// Rule 4: lists that come in, and lists that go out.
func TestMemory(t *testing.T) {
	room := []int{9, 3, 64, 3, -1, 700, 42, 43}
	l := room[:6]
	s := Of(100, l...)
	if !slices.Equal(room, []int{9, 3, 64, 3, -1, 700, 42, 43}) {
		t.Errorf("Of changed what came in: %v", room)
	}
	l[0], l[1] = 50, 51
	like(t, s, modelOf(100, 3, 9, 64))
	a, b := s.All(), s.All()
	a[0] = 77
	if !slices.Equal(b, []int{3, 9, 64}) || s.Has(77) || !s.Has(3) {
		t.Errorf("All shares memory: %v, %v", b, s.All())
	}
	_ = append(b[:1], 8)
	s.Drop(64)
	s.Add(99)
	if b[0] != 3 || b[2] != 64 {
		t.Errorf("what All told was changed: %v", b)
	}
	like(t, s, modelOf(100, 3, 9, 99))
}

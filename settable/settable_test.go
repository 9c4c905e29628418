package settable

import (
	"math"
	"slices"
	"testing"

	"spool/bits"
)

// P23.1: the example.
func TestExample(t *testing.T) {
	x := New(5)
	for i, want := range []struct {
		s     bits.Set
		n     int
		fresh bool
	}{{bits.Of(9, 1), 0, true}, {bits.Of(9, 2), 1, true}, {bits.Of(9, 1), 0, false}} {
		if n, fresh := x.Put(want.s); n != want.n || fresh != want.fresh {
			t.Errorf("Put %d: %d, %v", i, n, fresh)
		}
	}
}

// P23.1: for how many sets there is room, from the whole range; a full table knows those that it has.
func TestRoom(t *testing.T) {
	for _, x := range [][2]int{
		{math.MinInt, 1}, {math.MinInt + 1, 1}, {-1 << 40, 1}, {-1 << 32, 1}, {math.MinInt32, 1}, {-65536, 1}, {-2, 1}, {-1, 1}, {0, 1}, {1, 1}, {2, 2}, {3, 3}, {4, 4}, {5, 5}, {6, 6}, {7, 7}, {8, 8}, {9, 9}, {255, 255}, {256, 256}, {257, 257}, {1000, 1000}, {43689, 43689}, {43690, 43690}, {65535, 65535}, {65536, 65536},
		{65537, 65536}, {65538, 65536}, {1 << 17, 65536}, {math.MaxInt32, 65536}, {1 << 32, 65536}, {1<<32 + 5, 65536}, {math.MaxInt - 1, 65536}, {math.MaxInt, 65536},
	} {
		table, m := New(x[0]), modelOf(x[1])
		// A model of that many sets takes time; one is enough.
		if x[1] == 65536 && x[0] != 65536 {
			fills(t, table, x[1])
			continue
		}
		lacks(t, table, 0)
		for n := range x[1] {
			if k, fresh := m.puts(t, table, pair(n)); k != n || !fresh {
				t.Fatalf("of %d: Put %d: %d, %v", x[0], n, k, fresh)
			}
		}
		for _, s := range []bits.Set{{}, bits.New(512), bits.Of(512, 3), bits.Of(600, 3, 7, 550), pair(x[1] % 65536), bits.Of(65536, 65535)} {
			m.puts(t, table, s)
			m.finds(t, table, s)
		}
		for n := range min(x[1], 300) {
			m.puts(t, table, pair(x[1]-1-n))
		}
		like(t, table, m)
	}
}

// fills fails where a table isn't full behind just so many sets.
func fills(t *testing.T, x *Table, most int) {
	t.Helper()
	for n := range most {
		if k, fresh := x.Put(pair(n)); k != n || !fresh || x.Full() != (n == most-1) {
			t.Fatalf("Put %d of %d: %d, %v", n, most, k, fresh)
		}
	}
	if k, fresh := x.Put(bits.Of(512, 3)); k != -1 || fresh || x.Len() != most {
		t.Fatalf("Put behind %d: %d, %v", most, k, fresh)
	}
}

// P23.1, P23.2: a nil table, and one that nobody made, has no room.
func TestNobodyMade(t *testing.T) {
	var zero Table
	for _, x := range []*Table{nil, &zero, new(Table)} {
		for range 2 {
			for _, s := range []bits.Set{{}, bits.New(0), bits.New(9), bits.Of(9, 1), bits.Of(65536, 65535)} {
				if n, fresh := x.Put(s); n != -1 || fresh {
					t.Errorf("Put: %d, %v", n, fresh)
				}
				if n, ok := x.Find(s); n != -1 || ok {
					t.Errorf("Find: %d, %v", n, ok)
				}
			}
			for _, n := range none(0) {
				lacks(t, x, n)
			}
			if !x.Full() || x.Len() != 0 {
				t.Errorf("Full %v, Len %d", x.Full(), x.Len())
			}
			if places, taken := x.Load(); places != 0 || taken != 0 {
				t.Errorf("Load: %d, %d", places, taken)
			}
		}
	}
}

// P23.1, P23.2: a table in which nothing is.
func TestEmpty(t *testing.T) {
	for _, most := range []int{1, 2, 100, 65536} {
		x, m := New(most), modelOf(most)
		like(t, x, m)
		for _, s := range []bits.Set{{}, bits.New(0), bits.New(65536), bits.Of(9, 1), pair(0)} {
			m.finds(t, x, s)
		}
		like(t, x, m)
	}
}

// fewOf are sets of the same few numbers in rooms of many kinds, so that many are the same.
func fewOf() []bits.Set {
	l := []bits.Set{{}}
	for _, room := range []int{0, 1, 2, 63, 64, 65, 66, 128, 130, 4096, 65536} {
		for subset := range 64 {
			s, all := bits.New(room), true
			for i, n := range []int{0, 1, 63, 64, 65, 129} {
				if subset>>i&1 == 1 {
					s.Add(n)
					all = all && n < room
				}
			}
			if all {
				l = append(l, s)
			}
		}
	}
	return l
}

// P23.1: a set is one whose numbers are the same, whatever room it has; of those that are the same the first one is kept.
func TestRooms(t *testing.T) {
	sets := fewOf()
	for turn := range 40 {
		back := slices.Clone(sets)
		if turn%2 == 1 {
			slices.Reverse(back)
		}
		back = append(back[turn*7:], back[:turn*7]...)
		for _, most := range []int{1, 2, 40, 63, 64, 65, 65536} {
			x, m := New(most), modelOf(most)
			for _, s := range back {
				m.finds(t, x, s)
				m.puts(t, x, s)
				m.finds(t, x, s)
			}
			for _, s := range sets {
				m.puts(t, x, s)
			}
			if x.Len() != min(most, 64) {
				t.Fatalf("of %d: Len %d", most, x.Len())
			}
			like(t, x, m)
		}
	}
}

// P23.1: two sets, of which one has a number that the other has not, are two, wherever that is.
func TestButOne(t *testing.T) {
	for _, l := range [][]int{nil, {7, 70, 190}, {0, 64, 128}} {
		for n := range 300 {
			x, m := New(300), modelOf(300)
			s := bits.Of(300, l...)
			m.puts(t, x, s.Copy())
			if !s.Add(n) {
				s.Drop(n)
			}
			m.finds(t, x, s)
			m.puts(t, x, s)
			m.puts(t, x, bits.Of(65536, l...))
			like(t, x, m)
			if x.Len() != 2 {
				t.Fatalf("%v, and that but for %d: Len %d", l, n, x.Len())
			}
		}
	}
	x, m := New(65536), modelOf(65536)
	for i := range 16 {
		for _, n := range []int{1<<i - 1, 1 << i, 65535 - 1<<i} {
			m.puts(t, x, bits.Of(65536, n))
			m.puts(t, x, bits.Of(n+1, n))
		}
	}
	like(t, x, m)
}

// P23.1, P23.2, P23.3: behind each Put a small table is what its model is, all of it.
func TestBehindEach(t *testing.T) {
	for most := 1; most < 120; most++ {
		x, m := New(most), modelOf(most)
		for n := range most + 3 {
			m.puts(t, x, bits.Of(200, n, 199-n%7))
			like(t, x, m)
			m.puts(t, x, bits.Of(300, n/2, 199-n/2%7))
			like(t, x, m)
		}
	}
}

// P23.2: places and sets, with each number of sets; what is there already, what isn't found, what has no room and what is asked for changes nothing of that.
func TestLoad(t *testing.T) {
	x, m := New(5000), modelOf(5000)
	for n := range 5010 {
		m.puts(t, x, pair(n))
		places, taken := x.Load()
		x.Put(pair(n / 3))
		x.Put(pair(n))
		x.Find(pair(n / 2))
		x.Find(pair(n + 1))
		x.Find(bits.New(512))
		x.Get(n)
		x.Get(n + 1)
		if p, k := x.Load(); p != places || k != taken {
			t.Fatalf("Load behind %d sets: %d, %d, then %d, %d", n+1, places, taken, p, k)
		}
	}
	like(t, x, m)
}

// P23.2: places come as sets do, so that a table of much room is not great from its beginning on.
func TestGrows(t *testing.T) {
	for _, most := range []int{1, 1000, 65536} {
		x := New(most)
		for n := range 2001 {
			places, taken := x.Load()
			if places > 4*taken+8 {
				t.Fatalf("of %d: Load behind %d sets: %d, %d", most, n, places, taken)
			}
			x.Put(pair(n))
		}
	}
}

// P23.3: a set's number stays, each time that more come behind it, and when the table is full.
func TestStays(t *testing.T) {
	x, m := New(4000), modelOf(4000)
	for n := range 4000 {
		m.puts(t, x, bits.Of(4096, n, 4095-n/5, n*n%4096))
		if n%97 == 0 {
			like(t, x, m)
		}
	}
	like(t, x, m)
	for n := range 4100 {
		m.puts(t, x, bits.Of(5000, n))
	}
	like(t, x, m)
}

// at tells at which one of so many places a set would stand, were all free.
func at(s bits.Set, places int) int {
	x := New(1)
	x.Put(s)
	return int(x.sets[0].hash % uint64(places))
}

// P23.1, P23.3: sets that would all stand at the same place, at the first one or at the last ones, behind which the places go on at the first.
func TestSamePlace(t *testing.T) {
	for _, want := range [][]int{{0}, {1023}, {1022, 1023}, {1023, 0}, {511, 512}, {7}} {
		var l []bits.Set
		for n := range 65536 {
			if slices.Contains(want, at(pair(n), 1024)) {
				l = append(l, pair(n))
			}
		}
		if len(l) < 40 {
			t.Fatalf("at %v: %d sets", want, len(l))
		}
		for _, most := range []int{1, 5, len(l) / 2, len(l) - 1, len(l), 65536} {
			x, m := New(most), modelOf(most)
			for i, s := range l {
				m.finds(t, x, s)
				m.puts(t, x, s)
				m.puts(t, x, l[i/2])
			}
			for i := range l {
				m.finds(t, x, l[len(l)-1-i])
				m.finds(t, x, pair(i))
			}
			like(t, x, m)
		}
	}
}

// P23.1, P23.3: unlike sets that have the same hash are told apart all the same, and stay so when the places grow.
func TestSameHash(t *testing.T) {
	for _, hash := range []uint64{0, 1, 7, 8, 1 << 63, math.MaxUint64, math.MaxUint64 - 1} {
		x := New(65536)
		for n := range 200 {
			e := entry{set: pair(n), hash: hash - uint64(n%3)}
			if k := x.places[x.place(e)]; k != 0 {
				t.Fatalf("at the place of %d ahead of it: %d", n, k-1)
			}
			x.sets = append(x.sets, e)
			if x.crowded(n + 1) {
				x.spread(2 * len(x.places))
			}
			x.stand(n)
			for i, e := range x.sets {
				if k := x.places[x.place(e)] - 1; k != i {
					t.Fatalf("at the place of %d behind %d: %d", i, n, k)
				}
			}
		}
	}
}

// P23.1, P23.2, P23.3: sets come in rooms that are greater, smaller, or both in turn; such as have none of their first numbers don't all stand at one place, whatever room came ahead.
func TestRoomsGrow(t *testing.T) {
	for _, rooms := range [][]int{{0, 1, 2, 63, 64, 65, 66, 127, 128, 129, 130, 511, 512, 513, 4095, 4096, 4097, 65535, 65536}, {65536, 65535, 4097, 4096, 513, 512, 300, 65, 64, 63, 2, 1, 0}, {0, 65536, 1, 65535, 64, 4096, 65, 130, 63}} {
		x, m := New(1000), modelOf(1000)
		for i, room := range rooms {
			for k := range 20 {
				for _, s := range []bits.Set{bits.Of(room, room-1-k), bits.Of(room, k), bits.Of(room, 0, room-1-k), bits.Of(rooms[len(rooms)-1-i], room-1-k)} {
					m.finds(t, x, s)
					m.puts(t, x, s)
					m.finds(t, x, s)
				}
			}
			like(t, x, m)
		}
		met := map[uint64]bool{}
		for _, e := range x.sets {
			met[e.hash] = true
		}
		if len(met) != x.Len() {
			t.Errorf("rooms %v: %d sets have %d hashes", rooms, x.Len(), len(met))
		}
	}
}

// P23.1, P23.2, P23.3: calls of all kinds, one after the other.
func TestManyCalls(t *testing.T) {
	for seed := range uint64(200) {
		state := seed
		most := []int{1, 2, 3, 7, 20, 64, 150, 1000}[next(&state, 8)]
		spread := []int{3, 5, 9, 70, 300}[next(&state, 5)]
		x, m := New(most), modelOf(most)
		for range 900 {
			s := bits.New([]int{1, 5, 64, 65, 100, 300, 65536}[next(&state, 7)])
			for range next(&state, 5) {
				s.Add(next(&state, spread))
			}
			switch next(&state, 4) {
			case 0, 1:
				m.puts(t, x, s)
			case 2:
				m.finds(t, x, s)
			case 3:
				n := next(&state, most+3) - 1
				if n >= 0 && n < len(m.sets) {
					holds(t, x, n, m.sets[n], m.rooms[n])
				} else {
					lacks(t, x, n)
				}
			}
		}
		like(t, x, m)
	}
}

// change makes a set another one.
func change(s bits.Set) {
	for n := range s.Room() {
		if n%3 == 0 && !s.Drop(n) {
			s.Add(n)
		}
	}
}

// P23.1: what is put and what is told are copies; what is handed in stays as it was.
func TestCopies(t *testing.T) {
	x, m := New(100), modelOf(100)
	for n := range 110 {
		s := bits.Of(130+n, n, 2*n, 128)
		l := s.All()
		m.puts(t, x, s)
		m.puts(t, x, s)
		m.finds(t, x, s)
		if !slices.Equal(s.All(), l) || s.Room() != 130+n {
			t.Fatalf("%v is now %v", l, s.All())
		}
		change(s)
		like(t, x, m)
	}
	for n := range 100 {
		a, _ := x.Get(n)
		b, _ := x.Get(n)
		change(a)
		if !slices.Equal(b.All(), m.sets[n]) || a.Same(b) {
			t.Fatalf("two Gets of %d: %v, %v", n, a.All(), b.All())
		}
		change(b)
		like(t, x, m)
	}
}

// P23.1: a set that is there already, or has no room, isn't kept.
func TestNotKept(t *testing.T) {
	x, m := New(2), modelOf(2)
	m.puts(t, x, bits.Of(70, 1))
	m.puts(t, x, bits.Of(70, 65))
	again, more := bits.Of(70, 65), bits.Of(70, 2)
	m.puts(t, x, again)
	m.puts(t, x, more)
	again.Add(3)
	more.Add(3)
	like(t, x, m)
	m.finds(t, x, again)
	m.finds(t, x, more)
}

// P23.1: what is done with one table shows in no other one.
func TestTwoTables(t *testing.T) {
	a, b := New(50), New(70)
	m, o := modelOf(50), modelOf(70)
	for n := range 80 {
		m.puts(t, a, pair(n))
		like(t, b, o)
		o.puts(t, b, pair(79-n/2))
		like(t, a, m)
	}
	like(t, b, o)
}

// P23.1: a table that is moved goes on where it is now.
func TestMoved(t *testing.T) {
	x, m := *New(9), modelOf(9)
	for n := range 12 {
		m.puts(t, &x, pair(n))
		like(t, &x, m)
	}
	y := x
	m.puts(t, &y, pair(13))
	like(t, &y, m)
}

// P23.1: what is answered hangs on what was put alone.
func TestAgain(t *testing.T) {
	for _, most := range []int{20, 400} {
		var want [][2]int
		for turn := range 5 {
			x := New(most)
			for n := range 500 {
				k, _ := x.Put(pair(n * 77 % 300))
				places, _ := x.Load()
				if turn == 0 {
					want = append(want, [2]int{k, places})
				}
				if want[n] != [2]int{k, places} {
					t.Fatalf("Put %d of turn %d: %d, of %d places, not %v", n, turn, k, places, want[n])
				}
			}
		}
	}
}

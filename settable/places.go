package settable

import (
	"spool/bits"
)

const (
	// few is how many places a table has at first; with fewer than two, not so many as ought to be would be free in an empty one.
	few = 8
	// narrow is with how much room hashes are reckoned at first.
	narrow = 64
)

// entry is a set, and its hash, which is kept since all sets are placed anew whenever the places grow.
type entry struct {
	set  bits.Set
	hash uint64
}

// same tells whether two entries have the same set.
func (x entry) same(y entry) bool { return x.hash == y.hash && x.set.Same(y.set) }

// entryOf makes an entry of a set. Sets that are the same are sure to have the same hash only where they have the same room, too, so that all of a table are reckoned with one room. One that has numbers behind it is not in the table, whatever its hash is.
func (t *Table) entryOf(s bits.Set) entry {
	like := bits.New(t.wide)
	like.Join(s)
	return entry{set: s, hash: like.Hash()}
}

// made tells whether somebody made the table.
func (t *Table) made() bool { return t != nil && t.full != nil }

// filled tells whether there are as many sets as there is room for.
func (t *Table) filled() bool { return len(t.sets) >= t.most }

// place tells at which place the number of a set stands, or, if it stands at none, the free one where it is to stand. It ends, since some places are free.
func (t *Table) place(x entry) int {
	at := int(x.hash % uint64(len(t.places)))
look:
	for {
		switch n := t.places[at]; {
		case n == 0, t.sets[n-1].same(x):
			break look
		}
		at = (at + 1) % len(t.places)
	}
	return at
}

// number tells a set's number, or -1.
func (t *Table) number(s bits.Set) int { return t.places[t.place(t.entryOf(s))] - 1 }

// add adds a set that is not there, and tells its number.
func (t *Table) add(s bits.Set) int {
	n := len(t.sets)
	if s.Room() > t.wide {
		t.widen(s.Room())
	}
	if t.crowded(n + 1) {
		t.spread(2 * len(t.places))
	}
	t.sets = append(t.sets, t.entryOf(s))
	t.stand(n)
	return n
}

// stand has a set's number stand at its place.
func (t *Table) stand(n int) { t.places[t.place(t.sets[n])] = n + 1 }

// crowded tells whether too few places would be free, if so many were taken: a third of them, and one, are to be.
func (t *Table) crowded(taken int) bool {
	free := len(t.places) - taken
	return 3*(free-1) < len(t.places)
}

// spread has all numbers stand at so many places.
func (t *Table) spread(places int) {
	t.places = make([]int, places)
	for n := range t.sets {
		t.stand(n)
	}
}

// widen has all hashes reckoned with so much room, or more. It doubles, so that that is seldom to be done, in whatever rooms sets come.
func (t *Table) widen(room int) {
	for t.wide < room {
		t.wide *= 2
	}
	for n, x := range t.sets {
		t.sets[n] = t.entryOf(x.set)
	}
	t.spread(len(t.places))
}

package bits

// fits tells whether there is room for a number.
func (s Set) fits(n int) bool { return 0 <= n && n < s.room }

// bit tells a number's bit in its word.
func bit(n int) uint64 { return 1 << (n % wide) }

// word tells the word of a place; it is one of nothing where the set has none.
func (s Set) word(i int) uint64 {
	if i < len(s.words) {
		return s.words[i]
	}
	return 0
}

// open tells, as bits, for which numbers of the word of a place there is room.
func (s Set) open(i int) uint64 { return 1<<max(s.room-i*wide, 0) - 1 }

// filled tells the words in which something is, each with its place.
func (s Set) filled(yield func(int, uint64) bool) {
	for i, w := range s.words {
		if w != 0 && !yield(i, w) {
			return
		}
	}
}

// within tells whether another set has all that this one has.
func (s Set) within(t Set) bool {
	for i, w := range s.filled {
		if w&^t.word(i) != 0 {
			return false
		}
	}
	return true
}

// stirred tells another number for each number, such that each bit of the one hangs on all bits of the other: words that differ little, as those of sets mostly do, are then far apart.
func stirred(x uint64) uint64 {
	x = (x ^ x>>30) * 0xbf58476d1ce4e5b9
	x = (x ^ x>>27) * 0x94d049bb133111eb
	return x ^ x>>31
}

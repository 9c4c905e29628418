package measure

import (
	"math/big"
	"slices"
	"strings"
	"testing"

	"spool/api"
	"spool/arena"
	"spool/byteseq"
	"spool/regex"
)

const top = api.MaxRune

// of are ranges, of two numbers each.
func of(n ...int) []api.Range {
	var l []api.Range
	for i := 0; i+1 < len(n); i += 2 {
		l = append(l, api.Range{Lo: n[i], Hi: n[i+1]})
	}
	return l
}

// parsed is the tree of an expression.
func parsed(t *testing.T, s string) api.Tree {
	t.Helper()
	u, f := regex.Parse(s, nil, false)
	if f != (api.Fault{}) {
		t.Fatalf("Parse(%.99q): %v", s, f)
	}
	return u
}

// built is a tree of nodes that a builder makes; the last one is its Root.
func built(make func(b *arena.Builder)) api.Tree {
	b := arena.New()
	make(b)
	u, _ := b.Tree(b.Len() - 1)
	return u
}

// chain is a Set of a, and as many nodes behind it as are asked for, each of the one ahead of it.
func chain(n int, more func(b *arena.Builder, last int) int) api.Tree {
	return built(func(b *arena.Builder) {
		b.Set(of('a', 'a'))
		for range n {
			more(b, b.Len()-1)
		}
	})
}

// copied is a tree that shares no memory with another one.
func copied(u api.Tree) api.Tree {
	c := api.Tree{Nodes: slices.Clone(u.Nodes), Root: u.Root}
	for _, l := range u.Sets {
		c.Sets = append(c.Sets, slices.Clone(l))
	}
	return c
}

// maxKnown is the length up to which the model knows texts' lengths.
const maxKnown = 64*5 - 1

// lengths tells of each number up to maxKnown, as bits, whether a text has as many bytes; over: there may be longer ones.
type lengths struct {
	bits [(maxKnown + 1) / 64]uint64
	over bool
}

// is tells whether it is a length.
func (l lengths) is(n int) bool { return l.bits[n/64]>>(n%64)&1 == 1 }

// with adds a length.
func (l *lengths) with(n int) {
	if n > maxKnown {
		l.over = true
	} else {
		l.bits[n/64] |= 1 << (n % 64)
	}
}

// known are the lengths up to maxKnown.
func (l lengths) known() []int {
	var all []int
	for n := range maxKnown + 1 {
		if l.is(n) {
			all = append(all, n)
		}
	}
	return all
}

// or are the lengths of one or the other.
func (l lengths) or(o lengths) lengths {
	for i, b := range o.bits {
		l.bits[i] |= b
	}
	l.over = l.over || o.over
	return l
}

// some tells whether there is a length.
func (l lengths) some() bool { return l != lengths{} }

// then are the lengths of one behind the other.
func (l lengths) then(o lengths) lengths {
	var both lengths
	if !l.some() || !o.some() {
		return both
	}
	its := o.known()
	for _, n := range l.known() {
		for _, m := range its {
			both.with(n + m)
		}
	}
	both.over = both.over || l.over || o.over
	return both
}

// times are the lengths of one from lo to hi times.
func (l lengths) times(lo, hi int) lengths {
	var all, power lengths
	power.with(0)
	if hi == -1 {
		// More times than that add lengths beyond those that are known, or none.
		hi = lo + maxKnown + 1
	}
	for k := 0; k <= hi; k++ {
		was := all
		if k >= lo {
			all = all.or(power)
		}
		if k > lo && all == was {
			// One time that adds nothing is behind all that do.
			break
		}
		power = power.then(l)
	}
	return all
}

// modelLengths tells from the document's words how many bytes texts have that a tree has, each node's by those of its parts.
func modelLengths(u api.Tree) lengths {
	l := make([]lengths, len(u.Nodes))
	for i, n := range u.Nodes {
		switch n.Op {
		case api.Empty:
			l[i].with(0)
		case api.Set:
			for _, r := range u.Sets[n.Set] {
				// A length changes at these numbers alone.
				for _, c := range []int{r.Lo, 127, 128, 2047, 2048, 0xd7ff, 0xe000, 65535, 65536, r.Hi} {
					if c >= r.Lo && c <= r.Hi && (c < 0xd800 || c > 0xdfff) {
						l[i].with(len(string(rune(c))))
					}
				}
			}
		case api.Cat:
			l[i] = l[n.A].then(l[n.B])
		case api.Alt:
			l[i] = l[n.A].or(l[n.B])
		case api.Rep:
			l[i] = l[n.A].times(n.Lo, n.Hi)
		}
	}
	return l[u.Root]
}

// modelNeed tells from the document's words what a node needs, without a bound.
func modelNeed(u api.Tree, i int) *big.Int {
	n, need := u.Nodes[i], big.NewInt(0)
	add := func(m *big.Int, times int) { need.Add(need, new(big.Int).Mul(m, big.NewInt(int64(times)))) }
	one := big.NewInt(1)
	switch n.Op {
	case api.Set:
		rows := byteseq.Of(u.Sets[n.Set])
		for _, row := range rows {
			add(one, len(row))
		}
		if len(rows) != 1 {
			add(one, 1)
		}
	case api.Cat:
		add(modelNeed(u, n.A), 1)
		add(modelNeed(u, n.B), 1)
	case api.Alt:
		add(modelNeed(u, n.A), 1)
		add(modelNeed(u, n.B), 1)
		add(one, 1)
	case api.Rep:
		part := modelNeed(u, n.A)
		add(part, n.Lo)
		if n.Hi == -1 {
			add(part, 1)
			add(one, 1)
			break
		}
		for range n.Hi - n.Lo {
			add(part, 1)
			add(one, 1)
		}
	}
	return need
}

// cut tells a number of the model as it is counted.
func cut(n *big.Int) int {
	if n.Cmp(big.NewInt(1<<20)) > 0 {
		return 1 << 20
	}
	return int(n.Int64())
}

// someSets are sets of code points of all lengths, and of numbers that are none.
func someSets() [][]api.Range {
	return [][]api.Range{of('a', 'a'), of('b', 'b'), nil, of('a', 'b', 0xe9, 0xe9), of(0xe9, 0xe9), of(0x20ac, 0x20ac), of(0x1f600, 0x1f600), of(0xd800, 0xdfff), of(0xdbff, 0xdc00, 0xffff, 0x10000), of(0xd7ff, 0xe000), of(0, top), of(127, 128), of(0xdfff, 0xdfff, 0x20ac, 0x20ae)}
}

// edges are numbers at and beside the edges of those sets.
func edges() []int {
	l := []int{0, 1, top, top - 1, 'a' - 1, 'a', 'b', 'c', 0xd7fe, 0xe001}
	for _, set := range someSets() {
		for _, r := range set {
			l = append(l, r.Lo, r.Hi)
		}
	}
	slices.Sort(l)
	return slices.Compact(l)
}

// every goes through all trees of up to so many nodes.
func every(u api.Tree, most int, leaves []api.Node, times [][2]int, see func(u api.Tree)) {
	i := len(u.Nodes)
	if i > 0 {
		u.Root = i - 1
		see(u)
	}
	if i == most {
		return
	}
	with := func(n api.Node) {
		more := u
		more.Nodes = append(u.Nodes[:i:i], n)
		every(more, most, leaves, times, see)
	}
	for _, n := range leaves {
		with(n)
	}
	for x := range i {
		for y := range i {
			with(api.Node{Op: api.Cat, A: x, B: y})
			with(api.Node{Op: api.Alt, A: x, B: y})
		}
		for _, n := range times {
			with(api.Node{Op: api.Rep, A: x, Lo: n[0], Hi: n[1]})
		}
	}
}

// source tells numbers, the same ones each time.
type source uint64

// below tells a number below one.
func (s *source) below(n int) int {
	*s = *s*6364136223846793005 + 1442695040888963407
	return int(uint64(*s) >> 33 % uint64(n))
}

// text tells a text of so many of some pieces.
func (s *source) text(n int, pieces ...string) string {
	var b strings.Builder
	for range n {
		b.WriteString(pieces[s.below(len(pieces))])
	}
	return b.String()
}

// tree tells a tree of up to so many nodes, in which parts stand in many places, with times up to a number.
func (s *source) tree(most, times int) api.Tree {
	return built(func(b *arena.Builder) {
		for range 1 + s.below(most) {
			// Parts are mostly taken of those that were made last, so that trees are deep.
			part := func() int { return max(b.Len()-1-s.below(1+s.below(6)), 0) }
			lo := s.below(times + 1)
			x := -1
			switch s.below(10) {
			case 0:
				x = b.Empty()
			case 1, 2, 3:
				l := someSets()
				x = b.Set(l[s.below(len(l))])
			case 4, 5:
				x = b.Cat(part(), part())
			case 6, 7:
				x = b.Alt(part(), part())
			case 8:
				x = b.Rep(part(), lo, lo+s.below(times-lo+1))
			case 9:
				x = b.Rep(part(), s.below(3), -1)
			}
			// There was no part yet.
			if x < 0 {
				b.Set(of('a', 'b'))
			}
		}
	})
}

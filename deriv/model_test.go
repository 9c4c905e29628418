package deriv

import (
	"testing"

	"spool/api"
	"spool/arena"
	"spool/regex"
)

const top = api.MaxRune

// of are ranges, of two numbers each.
func of(n ...int) []api.Range {
	var l []api.Range
	for i := 0; i+1 < len(n); i += 2 {
		l = append(l, api.Range{Lo: n[i], Hi: n[i+1]})
	}
	return l
}

// parsed is the tree of an expression.
func parsed(t *testing.T, s string) api.Tree {
	t.Helper()
	u, f := regex.Parse(s, nil, false)
	if f != (api.Fault{}) {
		t.Fatalf("Parse(%.99q): %v", s, f)
	}
	return u
}

// built is a tree of nodes that a builder makes; the last one is its Root.
func built(make func(b *arena.Builder)) api.Tree {
	b := arena.New()
	make(b)
	u, _ := b.Tree(b.Len() - 1)
	return u
}

// chain is some nodes, and as many behind them as are asked for, each of the one ahead of it.
func chain(first func(b *arena.Builder), n int, more func(b *arena.Builder, last int) int) api.Tree {
	return built(func(b *arena.Builder) {
		first(b)
		for range n {
			more(b, b.Len()-1)
		}
	})
}

// letter makes a Set of a, maybe one of a from 0 to 1 times.
func letter(b *arena.Builder) { b.Set(of('a', 'a')) }

func maybe(b *arena.Builder) { b.Rep(b.Set(of('a', 'a')), 0, 1) }

// The ways in which a node is of the one ahead of it alone.
func catTwice(b *arena.Builder, last int) int { return b.Cat(last, last) }

func altTwice(b *arena.Builder, last int) int { return b.Alt(last, last) }

// grid tells of each place of a row, as bits, where what begins there may end.
type grid []uint64

// blank is the grid of nothing in a row of so many numbers, still that of the empty row.
func blank(n int) grid { return make(grid, n+1) }

func still(n int) grid {
	g := blank(n)
	for i := range g {
		g[i] = 1 << i
	}
	return g
}

// or is the grid of one or the other.
func (g grid) or(h grid) grid {
	l := make(grid, len(g))
	for i := range g {
		l[i] = g[i] | h[i]
	}
	return l
}

// then is the grid of one behind the other.
func (g grid) then(h grid) grid {
	l := make(grid, len(g))
	for i := range g {
		for j := range h {
			if g[i]>>j&1 == 1 {
				l[i] |= h[j]
			}
		}
	}
	return l
}

// times is the grid of one from lo to hi times.
func (g grid) times(lo, hi int) grid {
	if hi == -1 {
		// More times than there are numbers have some without a number, which may be left away.
		hi = lo + len(g)
	}
	all, power := make(grid, len(g)), still(len(g)-1)
	for k := range hi + 1 {
		if k >= lo {
			all = all.or(power)
		}
		power = power.then(g)
	}
	return all
}

// hasRow tells from the document's words whether a tree has a row of at most 60 numbers.
func hasRow(u api.Tree, row []int) bool {
	l := make([]grid, len(u.Nodes))
	for i, n := range u.Nodes {
		switch n.Op {
		case api.Empty:
			l[i] = still(len(row))
		case api.Set:
			l[i] = blank(len(row))
			for at, c := range row {
				for _, r := range u.Sets[n.Set] {
					if r.Lo <= c && c <= r.Hi {
						l[i][at] = 1 << (at + 1)
					}
				}
			}
		case api.Cat:
			l[i] = l[n.A].then(l[n.B])
		case api.Alt:
			l[i] = l[n.A].or(l[n.B])
		case api.Rep:
			l[i] = l[n.A].times(n.Lo, n.Hi)
		}
	}
	return l[u.Root][0]>>len(row)&1 == 1
}

// model tells the same of a text that is right.
func model(u api.Tree, text string) bool {
	var row []int
	for _, c := range text {
		row = append(row, int(c))
	}
	return hasRow(u, row)
}

// texts are all texts of up to so many of some letters.
func texts(most int, letters ...string) []string {
	l := []string{""}
	for from := 0; most > 0; most-- {
		to := len(l)
		for _, s := range l[from:to] {
			for _, c := range letters {
				l = append(l, s+c)
			}
		}
		from = to
	}
	return l
}

// every goes through all trees of up to so many nodes.
func every(u api.Tree, most int, leaves []api.Node, times [][2]int, see func(u api.Tree)) {
	i := len(u.Nodes)
	if i > 0 {
		u.Root = i - 1
		see(u)
	}
	if i == most {
		return
	}
	with := func(n api.Node) {
		more := u
		more.Nodes = append(u.Nodes[:i:i], n)
		every(more, most, leaves, times, see)
	}
	for _, n := range leaves {
		with(n)
	}
	for x := range i {
		for y := range i {
			with(api.Node{Op: api.Cat, A: x, B: y})
			with(api.Node{Op: api.Alt, A: x, B: y})
		}
		for _, n := range times {
			with(api.Node{Op: api.Rep, A: x, Lo: n[0], Hi: n[1]})
		}
	}
}

// source tells numbers, the same ones each time.
type source uint64

// below tells a number below one.
func (s *source) below(n int) int {
	*s = *s*6364136223846793005 + 1442695040888963407
	return int(uint64(*s) >> 33 % uint64(n))
}

// text tells a text of so many of some letters.
func (s *source) text(n int, letters string) string {
	b := make([]byte, n)
	for i := range b {
		b[i] = letters[s.below(len(letters))]
	}
	return string(b)
}

// tree tells a tree of up to so many nodes, in which parts stand in many places, with times up to a number.
func (s *source) tree(most, times int) api.Tree {
	return built(func(b *arena.Builder) {
		for range 1 + s.below(most) {
			// Parts are mostly taken of those that were made last, so that trees are deep.
			part := func() int { return max(b.Len()-1-s.below(1+s.below(6)), 0) }
			lo := s.below(times + 1)
			x := -1
			switch s.below(10) {
			case 0:
				x = b.Empty()
			case 1, 2:
				x = b.Set([][]api.Range{of('a', 'a'), of('b', 'b'), of('a', 'b'), nil, of(0, top)}[s.below(5)])
			case 3, 4, 5:
				x = b.Cat(part(), part())
			case 6, 7:
				x = b.Alt(part(), part())
			case 8:
				x = b.Rep(part(), lo, lo+s.below(times-lo+1))
			case 9:
				x = b.Rep(part(), s.below(3), -1)
			}
			// There was no part yet.
			if x < 0 {
				b.Set(of('a', 'b'))
			}
		}
	})
}

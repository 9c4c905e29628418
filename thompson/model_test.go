package thompson

import (
	"math"
	"slices"
	"testing"
	"unicode/utf8"

	"spool/api"
	"spool/arena"
	"spool/byteseq"
	"spool/regex"
)

const top = api.MaxRune

// of are ranges, of two numbers each.
func of(n ...int) []api.Range {
	var l []api.Range
	for i := 0; i+1 < len(n); i += 2 {
		l = append(l, api.Range{Lo: n[i], Hi: n[i+1]})
	}
	return l
}

// parsed is the tree of an expression.
func parsed(t *testing.T, s string) api.Tree {
	t.Helper()
	u, f := regex.Parse(s, nil, false)
	if f != (api.Fault{}) {
		t.Fatalf("Parse(%.99q): %v", s, f)
	}
	return u
}

// built is a tree of nodes that a builder makes; the last one is its Root.
func built(make func(b *arena.Builder)) api.Tree {
	b := arena.New()
	make(b)
	u, _ := b.Tree(b.Len() - 1)
	return u
}

// copied is a tree that shares no memory with another one.
func copied(u api.Tree) api.Tree {
	c := api.Tree{Nodes: slices.Clone(u.Nodes), Root: u.Root}
	for _, l := range u.Sets {
		c.Sets = append(c.Sets, slices.Clone(l))
	}
	return c
}

// next is a number below n.
func next(state *uint64, n int) int {
	*state = *state*6364136223846793005 + 1442695040888963407
	return int(*state >> 33 % uint64(n))
}

// open tells to which states one comes by nothing from some.
func open(n api.Nfa, now []bool) []bool {
	var wait []int
	for k, is := range now {
		if is {
			wait = append(wait, k)
		}
	}
	for len(wait) > 0 {
		k := wait[len(wait)-1]
		wait = wait[:len(wait)-1]
		for _, to := range n.States[k].Eps {
			if !now[to] {
				now[to] = true
				wait = append(wait, to)
			}
		}
	}
	return now
}

// start tells to which states one comes by the empty text.
func start(n api.Nfa) []bool {
	now := make([]bool, len(n.States))
	now[n.Start] = true
	return open(n, now)
}

// goOn tells to which states one comes from some by a byte.
func goOn(n api.Nfa, now []bool, c byte) []bool {
	behind := make([]bool, len(n.States))
	for k, s := range n.States {
		if now[k] && s.Lo != -1 && s.Lo <= int(c) && int(c) <= s.Hi {
			behind[s.To] = true
		}
	}
	return open(n, behind)
}

// best is the least tag of some states.
func best(n api.Nfa, now []bool) int {
	tag := -1
	for k, s := range n.States {
		if now[k] && s.Tag != -1 && (tag == -1 || s.Tag < tag) {
			tag = s.Tag
		}
	}
	return tag
}

// tells is the tag that an automaton tells of a text.
func tells(n api.Nfa, text string) int {
	now := start(n)
	for i := range len(text) {
		now = goOn(n, now, text[i])
	}
	return best(n, now)
}

// ends are the places of a row, as bits, to which one comes by rows of a node from some.
func ends(t api.Tree, i int, row []rune, from uint64) uint64 {
	if from == 0 {
		return 0
	}
	switch n := t.Nodes[i]; n.Op {
	case api.Empty:
		return from
	case api.Set:
		var to uint64
		for at, c := range row {
			for _, r := range t.Sets[n.Set] {
				if from>>at&1 == 1 && r.Lo <= int(c) && int(c) <= r.Hi {
					to |= 2 << at
				}
			}
		}
		return to
	case api.Cat:
		return ends(t, n.B, row, ends(t, n.A, row, from))
	case api.Alt:
		return ends(t, n.A, row, from) | ends(t, n.B, row, from)
	default:
		return often(t, n, row, from)
	}
}

// often is ends of a node that comes so many times.
func often(t api.Tree, n api.Node, row []rune, from uint64) uint64 {
	for range n.Lo {
		from = ends(t, n.A, row, from)
	}
	all := from
	// Without a bound no more times are needed than there are numbers, since those that have none may be left out.
	more := len(row)
	if n.Hi != -1 {
		more = n.Hi - n.Lo
	}
	for range more {
		from = ends(t, n.A, row, from)
		all |= from
	}
	return all
}

// hasText tells whether a tree has a text.
func hasText(t api.Tree, text string) bool {
	row := []rune(text)
	return utf8.ValidString(text) && ends(t, t.Root, row, 1)>>len(row)&1 == 1
}

// needs is what a node needs.
func needs(t api.Tree, i int) int {
	n := t.Nodes[i]
	need := 0
	switch n.Op {
	case api.Set:
		rows := byteseq.Of(t.Sets[n.Set])
		for _, row := range rows {
			need += len(row)
		}
		if len(rows) != 1 {
			need++
		}
	case api.Cat:
		need = needs(t, n.A) + needs(t, n.B)
	case api.Alt:
		need = needs(t, n.A) + needs(t, n.B) + 1
	case api.Rep:
		part := needs(t, n.A)
		need = n.Lo * part
		if n.Hi == -1 {
			need += part + 1
		} else {
			need += (n.Hi - n.Lo) * (part + 1)
		}
	}
	return need
}

// someTree is a tree of as many nodes, of some sets.
func someTree(state *uint64, nodes int, sets [][]api.Range) api.Tree {
	t := api.Tree{Sets: sets, Root: nodes - 1}
	for i := range nodes {
		t.Nodes = append(t.Nodes, someNode(state, i, len(sets)))
	}
	return t
}

// someNode is a node that may be, with so many ahead of it.
func someNode(state *uint64, ahead, sets int) api.Node {
	if ahead == 0 || next(state, 4) == 0 {
		if next(state, 5) == 0 {
			return api.Node{Op: api.Empty}
		}
		return api.Node{Op: api.Set, Set: next(state, sets)}
	}
	// Parts that are near are taken more often, so that trees are deep.
	part := func() int { return ahead - 1 - min(next(state, ahead), next(state, ahead)) }
	switch next(state, 5) {
	case 0, 1:
		return api.Node{Op: api.Cat, A: part(), B: part()}
	case 2, 3:
		return api.Node{Op: api.Alt, A: part(), B: part()}
	}
	lo := next(state, 3)
	return api.Node{Op: api.Rep, A: part(), Lo: lo, Hi: []int{-1, lo, lo + 1, lo + 2}[next(state, 4)]}
}

// texts are all texts of at most so many of some pieces.
func texts(most int, pieces ...string) []string {
	all, last := []string{""}, []string{""}
	for range most {
		var more []string
		for _, s := range last {
			for _, p := range pieces {
				more = append(more, s+p)
			}
		}
		all, last = append(all, more...), more
	}
	return all
}

// mayBe tells whether an automaton may be, number by number, as the document says it.
func mayBe(n api.Nfa) bool {
	state := map[int]bool{}
	for i := range n.States {
		state[i] = true
	}
	for _, s := range n.States {
		none := s.Lo == -1 && s.Hi == -1 && s.To == -1
		byte := s.Lo >= 0 && s.Hi <= 255 && s.Lo <= s.Hi && state[s.To]
		if !none && !byte || s.Tag < -1 || slices.ContainsFunc(s.Eps, func(to int) bool { return !state[to] }) {
			return false
		}
	}
	return state[n.Start]
}

// numbers are numbers from the whole range.
func numbers() []int {
	return []int{math.MinInt, math.MinInt + 1, math.MinInt32, -256, -2, -1, 0, 1, 2, 3, 4, 127, 128, 254, 255, 256, 257, math.MaxInt32, 1 << 32, 1<<32 + 1, math.MaxInt - 1, math.MaxInt}
}

package regprint

import (
	"strconv"
	"strings"

	"spool/api"
)

const top = api.MaxRune

// of are ranges, of two numbers each.
func of(n ...int) []api.Range {
	var l []api.Range
	for i := 0; i+1 < len(n); i += 2 {
		l = append(l, api.Range{Lo: n[i], Hi: n[i+1]})
	}
	return l
}

// sketch adds a part to a tree, and tells its node.
type sketch func(t *api.Tree) int

// node is a sketch of a node, made of those of its parts.
func node(n api.Node, parts ...sketch) sketch {
	return func(t *api.Tree) int {
		n := n
		for i, x := range parts {
			*[]*int{&n.A, &n.B}[i] = x(t)
		}
		t.Nodes = append(t.Nodes, n)
		return len(t.Nodes) - 1
	}
}

// The sketches of all kinds; no two of them share a node.
func empty() sketch                 { return node(api.Node{Op: api.Empty}) }
func cat(x, y sketch) sketch        { return node(api.Node{Op: api.Cat}, x, y) }
func alt(x, y sketch) sketch        { return node(api.Node{Op: api.Alt}, x, y) }
func rep(x sketch, n ...int) sketch { return node(api.Node{Op: api.Rep, Lo: n[0], Hi: n[1]}, x) }
func char(c int) sketch             { return class(of(c, c)) }

func class(l []api.Range) sketch {
	return func(t *api.Tree) int {
		t.Sets = append(t.Sets, l)
		return node(api.Node{Op: api.Set, Set: len(t.Sets) - 1})(t)
	}
}

// tree is the tree of a sketch.
func tree(s sketch) api.Tree {
	t := api.Tree{}
	t.Root = s(&t)
	return t
}

// row puts sketches one into another, the first ones together.
func row(pair func(x, y sketch) sketch, l ...sketch) sketch {
	s := l[0]
	for _, x := range l[1:] {
		s = pair(s, x)
	}
	return s
}

// chain is a first node, and as many behind it as are asked for, each of the one ahead of it.
func chain(first api.Node, n int, more func(i int) api.Node) api.Tree {
	t := api.Tree{Nodes: []api.Node{first}, Sets: [][]api.Range{of('a', 'a')}, Root: n}
	for i := range n {
		t.Nodes = append(t.Nodes, more(i))
	}
	return t
}

// filled is a tree whose text is so many times a: one Set, which stands in all places.
func filled(n int) api.Tree {
	return chain(api.Node{Op: api.Set}, n-1, func(i int) api.Node { return api.Node{Op: api.Cat, A: i, B: 0} })
}

// model tells a node's text from the document's words, however long it is.
func model(t api.Tree, i int) string {
	n := t.Nodes[i]
	in := func(part int, kinds ...int) string {
		s := model(t, part)
		for _, k := range kinds {
			if t.Nodes[part].Op == k {
				return "(" + s + ")"
			}
		}
		return s
	}
	switch n.Op {
	case api.Set:
		return setModel(t.Sets[n.Set])
	case api.Cat:
		return in(n.A, api.Alt) + in(n.B, api.Cat, api.Alt)
	case api.Alt:
		return in(n.A) + "|" + in(n.B, api.Alt)
	case api.Rep:
		return in(n.A, api.Cat, api.Alt, api.Rep) + oftenModel(n.Lo, n.Hi)
	}
	return "()"
}

// oftenModel tells how often something stands.
func oftenModel(lo, hi int) string {
	m := strconv.Itoa(lo)
	n := strconv.Itoa(hi)
	if hi == -1 {
		n = ""
	}
	s := "{" + m + "," + n + "}"
	if lo == hi {
		s = "{" + m + "}"
	}
	if short, ok := map[string]string{"{0,}": "*", "{1,}": "+", "{0,1}": "?"}[s]; ok {
		return short
	}
	return s
}

// setModel tells a set.
func setModel(l []api.Range) string {
	const alone = "0123456789ABCDEFGHIJKLMNOPQRSTUVWXYZabcdefghijklmnopqrstuvwxyz"
	if len(l) == 0 {
		return `[^\u{0}-\u{10ffff}]`
	}
	if len(l) == 1 && l[0].Lo == l[0].Hi && strings.ContainsRune(alone, rune(l[0].Lo)) {
		return string(rune(l[0].Lo))
	}
	s := "["
	for _, r := range l {
		s += `\u{` + strconv.FormatInt(int64(r.Lo), 16) + "}"
		if r.Lo != r.Hi {
			s += `-\u{` + strconv.FormatInt(int64(r.Hi), 16) + "}"
		}
	}
	return s + "]"
}

// nested tells how many brackets stand within one another in a text.
func nested(s string) int {
	open, most := 0, 0
	for _, c := range []byte(s) {
		switch c {
		case '(':
			open++
		case ')':
			open--
		}
		most = max(most, open)
	}
	return most
}

// next tells numbers below one, the same ones each time.
func next(state *uint64, n int) int {
	*state = *state*6364136223846793005 + 1442695040888963407
	return int(*state >> 33 % uint64(n))
}

// someSets are a few sets, some of them the same.
func someSets() [][]api.Range {
	return [][]api.Range{of('a', 'a'), nil, of('0', '0'), of('a', 'b'), of('(', '('), of(0, top), of('Z', 'Z', '|', '|'), of(233, 233), of('a', 'a'), of(0x161, 0x161), of('*', '+', 0xd800, 0xdfff, top, top)}
}

// someTree is a tree that may be, of up to so many nodes, in which parts may stand in many places.
func someTree(state *uint64, most int) api.Tree {
	t := api.Tree{Sets: someSets()}
	for i := range 1 + next(state, most) {
		// Parts are mostly taken of those that were made last, so that trees are deep.
		part := func() int { return max(i-1-next(state, 1+next(state, 8)), 0) }
		n := api.Node{Op: api.Set, Set: next(state, len(t.Sets))}
		switch kind := next(state, 8); {
		case i == 0 || kind < 2:
		case kind == 2:
			n = api.Node{Op: api.Empty}
		case kind < 5:
			n = api.Node{Op: api.Cat, A: part(), B: part()}
		case kind < 7:
			n = api.Node{Op: api.Alt, A: part(), B: part()}
		default:
			lo := next(state, 3) * next(state, 90)
			n = api.Node{Op: api.Rep, A: part(), Lo: lo, Hi: lo + next(state, 4)*next(state, 20)}
			if next(state, 2) == 0 {
				n.Hi = -1
			}
		}
		t.Nodes = append(t.Nodes, n)
	}
	t.Root = len(t.Nodes) - 1
	return t
}

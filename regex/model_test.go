package regex

import (
	"regexp"
	"slices"
	"strconv"
	"strings"
	"testing"
	"unicode/utf8"

	"spool/api"
	"spool/arena"
	"spool/bracket"
	"spool/escape"
	"spool/fold"
	"spool/ranges"
)

// model reads expressions by calling itself for what stands in brackets, and by patterns; what is wrong leaves it by a panic.
type model struct {
	s    string
	at   int
	deep int
	room int
	defs []api.Def
}

// The patterns of what may stand at a byte.
var (
	oftenAtAll = regexp.MustCompile(`^([*+?]|\{[0-9])`)
	oftenRight = regexp.MustCompile(`^(?:([*+?])|\{([0-9]+)(,?)([0-9]*)\})`)
	setEscape  = regexp.MustCompile(`^\\[dwshDWSHpP]`)
	nameRight  = regexp.MustCompile(`^\{([A-Za-z_][A-Za-z0-9_]{0,31})\}`)
)

// reckon tells what Parse ought to tell of a text that is not too long: the shape of its tree, or a fault.
func reckon(s string, defs []api.Def, folded bool) (shape string, f api.Fault) {
	defer func() {
		if fault, ok := recover().(api.Fault); ok {
			shape, f = "", fault
		}
	}()
	m := &model{s: s, defs: defs, room: api.MaxNodes}
	shape = m.expression(folded)
	if m.at < len(s) {
		m.stop(api.ErrForm, m.at)
	}
	return shape, f
}

func (m *model) stop(e api.Errno, at int) { panic(api.Fault{E: e, At: at}) }

// take counts nodes of what begins at a byte.
func (m *model) take(n, at int) {
	m.room -= n
	if m.room < 0 {
		m.stop(api.ErrBig, at)
	}
}

func (m *model) comes(s string) bool { return strings.HasPrefix(m.s[m.at:], s) }

func (m *model) expression(folded bool) string {
	all := m.row(folded)
	for m.comes("|") {
		m.at++
		from := m.at
		row := m.row(folded)
		m.take(1, from)
		all = "<" + all + "|" + row + ">"
	}
	return all
}

func (m *model) row(folded bool) string {
	from, row, counted := m.at, "", false
	for m.at < len(m.s) && !m.comes("|") && !m.comes(")") {
		at := m.at
		if oftenAtAll.MatchString(m.s[at:]) {
			if counted {
				m.stop(api.ErrUnsupported, at)
			}
			m.stop(api.ErrForm, at)
		}
		part := m.atom(folded)
		behind := m.at
		part += m.often()
		counted = m.at > behind
		if row != "" {
			m.take(1, at)
			part = "<" + row + part + ">"
		}
		row = part
	}
	if row == "" {
		m.take(1, from)
		return "e"
	}
	return row
}

func (m *model) often() string {
	at := m.at
	if !oftenAtAll.MatchString(m.s[at:]) {
		return ""
	}
	found := oftenRight.FindStringSubmatch(m.s[at:])
	if found == nil {
		m.stop(api.ErrForm, at)
	}
	m.at += len(found[0])
	lo, hi := found[2], found[4]
	switch found[1] {
	case "*":
		lo, hi = "0", "-1"
	case "+":
		lo, hi = "1", "-1"
	case "?":
		lo, hi = "0", "1"
	default:
		if found[3] == "" {
			hi = lo
		} else if hi == "" {
			hi = "-1"
		}
	}
	a, b := number(lo), number(hi)
	if a > 255 || b > 255 {
		m.stop(api.ErrBig, at)
	}
	if b >= 0 && a > b {
		m.stop(api.ErrRange, at)
	}
	m.take(1, at)
	return "{" + strconv.Itoa(a) + "," + strconv.Itoa(b) + "}"
}

// number is the number of digits, 1000 for all that are more.
func number(s string) int {
	n, err := strconv.Atoi(s)
	if err != nil || n > 1000 {
		return 1000
	}
	return n
}

func (m *model) atom(folded bool) string {
	at := m.at
	switch m.s[at] {
	case '(':
		return m.group(folded)
	case '"':
		return m.quotes(folded)
	case '{':
		return m.definition()
	case '[':
		l, next, f := bracket.Parse(m.s, at, folded)
		if f != (api.Fault{}) {
			panic(f)
		}
		m.at = next
		return m.set(l, at, false)
	case '.':
		m.at++
		return m.set(of(0, 9, 11, top), at, false)
	case '^', '$', '/':
		m.stop(api.ErrUnsupported, at)
	case ']', '}':
		m.stop(api.ErrForm, at)
	}
	return m.set(m.one(), at, folded)
}

// set is the shape of a Set.
func (m *model) set(l []api.Range, at int, folded bool) string {
	m.take(1, at)
	if folded {
		l = fold.Set(l)
	}
	return setShape(l)
}

// one reads a code point, or an escape.
func (m *model) one() []api.Range {
	if m.comes(`\`) {
		l, next, e := escape.Parse(m.s, m.at)
		if e != api.OK {
			m.stop(e, m.at)
		}
		m.at = next
		return l
	}
	c, size := utf8.DecodeRuneInString(m.s[m.at:])
	if c == utf8.RuneError && size == 1 {
		m.stop(api.ErrForm, m.at)
	}
	m.at += size
	return of(int(c), int(c))
}

func (m *model) group(folded bool) string {
	at := m.at
	switch {
	case m.comes("(?i:"):
		m.at += 4
		folded = true
	case m.comes("(?"):
		m.stop(api.ErrUnsupported, at)
	default:
		m.at++
	}
	if m.deep == 32 {
		m.stop(api.ErrDeep, at)
	}
	m.deep++
	shape := m.expression(folded)
	m.deep--
	if m.at == len(m.s) {
		m.stop(api.ErrForm, at)
	}
	m.at++
	return shape
}

func (m *model) quotes(folded bool) string {
	open, row := m.at, ""
	for m.at++; !m.comes(`"`); {
		at := m.at
		if at == len(m.s) {
			m.stop(api.ErrForm, open)
		}
		l := m.one()
		if setEscape.MatchString(m.s[at:]) {
			m.stop(api.ErrForm, at)
		}
		x := m.set(l, at, folded)
		if row != "" {
			m.take(1, at)
			x = "<" + row + x + ">"
		}
		row = x
	}
	m.at++
	if row == "" {
		m.take(1, open)
		return "e"
	}
	return row
}

func (m *model) definition() string {
	at := m.at
	found := nameRight.FindStringSubmatch(m.s[at:])
	if found == nil {
		m.stop(api.ErrForm, at)
	}
	for _, d := range m.defs {
		if d.Name != found[1] {
			continue
		}
		if arena.Check(d.Tree) != api.OK {
			m.stop(api.ErrForm, at)
		}
		m.take(len(d.Tree.Nodes), at)
		m.at += len(found[0])
		return shapeOf(d.Tree, d.Tree.Root)
	}
	m.stop(api.ErrName, at)
	return ""
}

// held fails where what is told of a text isn't what is reckoned.
func held(t *testing.T, s string, defs []api.Def, folded bool) api.Fault {
	t.Helper()
	want, fault := reckon(s, defs, folded)
	tree, f := Parse(s, defs, folded)
	if f != fault {
		t.Fatalf("Parse(%q, .., %v): %v, not %v", s, folded, f, fault)
	}
	if f != (api.Fault{}) {
		if !zero(tree) {
			t.Fatalf("Parse(%q, .., %v): %v beside %v", s, folded, tree, f)
		}
		return f
	}
	if e := arena.Check(tree); e != api.OK {
		t.Fatalf("Parse(%q, .., %v): %v, which may not be", s, folded, tree)
	}
	if is := shapeOf(tree, tree.Root); is != want {
		t.Fatalf("Parse(%q, .., %v): %s, not %s", s, folded, is, want)
	}
	return f
}

// P13.1, P13.2: all texts of some parts, against what is reckoned.
func TestAllTexts(t *testing.T) {
	defs := []api.Def{{Name: "d", Tree: pair()}, {Name: "d"}, {Name: "e"}, {Name: "e", Tree: pair()}}
	for _, w := range []struct {
		parts string
		long  int
	}{
		{`a | ( ) *`, 8}, {`a ( (?i: ) | ? {2}`, 6}, {`a { } 2 , 3 +`, 6}, {`a {1 , 12 }  * {`, 6}, {`" a \ d " \" é |`, 6}, {`{d} {e} {f} {d { } * a`, 5},
		{`[ ] a ^ - ( .`, 6}, {"\xc3 \xa9 \xff \" ( a *", 6}, {`\ d x41 ( ? i : )`, 5}, {`^ $ / a | ( )`, 5}, {`(? (?i (?i: ) i : B`, 6}, {`{256} {2,1} {0} {d} a * |`, 5}, {`\w "k" [^k] (?i: ) {d} . K`, 5},
	} {
		parts := strings.Fields(w.parts)
		var texts func(s string, long int)
		texts = func(s string, long int) {
			held(t, s, defs, false)
			if long < 5 {
				held(t, s, defs, true)
			}
			if long == w.long {
				return
			}
			for _, p := range parts {
				texts(s+p, long+1)
			}
		}
		texts("", 0)
	}
}

// next tells numbers below one, the same ones each time.
func next(state *uint64, n int) int {
	*state = *state*6364136223846793005 + 1442695040888963407
	return int(*state >> 33 % uint64(n))
}

// atoms are what an atom may be, but groups.
var atoms = []string{"a", "Z", "é", " ", "-", ",", ":", "1", "_", "\n", "\x00", ".", `\.`, `\d`, `\W`, `\n`, `\x4B`, `\u{410}`, `\p{Upper}`, `\P{Lower}`, "[a-c]", "[^k]", `[\d-]`, "[|()]", `""`, `"a"`, `"ab c"`, `"\"\\."`, `"É|("`, "{d}", "{x_1}"}

// someText is an expression that is right, of up to so many parts within one another.
func someText(state *uint64, deep int) string {
	var rows []string
	for range 1 + next(state, 3) {
		row := ""
		for range next(state, 4) {
			kind := next(state, 5)
			switch {
			case deep > 0 && kind == 0:
				row += "(" + someText(state, deep-1) + ")"
			case deep > 0 && kind == 1:
				row += "(?i:" + someText(state, deep-1) + ")"
			default:
				row += atoms[next(state, len(atoms))]
			}
			row += []string{"", "", "*", "+", "?", "{3}", "{0,}", "{2,255}", "{00}"}[next(state, 9)]
		}
		rows = append(rows, row)
	}
	return strings.Join(rows, "|")
}

// P13.1, P13.2: long texts, right ones, and ones with something put in, or left out, against what is reckoned.
func TestLongTexts(t *testing.T) {
	defs := []api.Def{{Name: "d", Tree: pair()}, {Name: "x_1", Tree: one(of('k', 'k'))}, {Name: "d"}}
	signs := []string{"|", "(", ")", "[", "]", "{", "}", "*", "+", "?", ".", "^", "$", "/", `\`, `"`, "(?", "(?i:", "{2}", "{300}", "{4,2}", "{1,", "{nobody}", "\xff", `\d`, "a", "", "é", "\xc3"}
	state, right, wrong, met := uint64(13), 0, 0, map[api.Errno]int{}
	for range 8000 {
		s := someText(&state, 4)
		if len(s) > api.MaxText {
			continue
		}
		folded := next(&state, 2) == 1
		if f := held(t, s, defs, folded); f == (api.Fault{}) {
			right++
		}
		at := next(&state, len(s)+1)
		sign := signs[next(&state, len(signs))]
		for _, u := range []string{s[:at] + sign + s[at:], s[:at] + s[min(len(s), at+1):], s[:at] + sign} {
			if len(u) > api.MaxText {
				continue
			}
			if f := held(t, u, defs, folded); f != (api.Fault{}) {
				wrong++
				met[f.E]++
			}
		}
	}
	if right < 7000 || wrong < 5000 || len(met) < 5 {
		t.Errorf("%d right ones, %d wrong ones, by %v", right, wrong, met)
	}
}

// P13.1: each number of nodes that there may be room for, with expressions of all kinds behind a definition that takes the rest.
func TestRoomReckoned(t *testing.T) {
	state, full := uint64(7), 0
	for range 120 {
		s := "{pad}" + []string{"", "|", "*", "(", "{2}|"}[next(&state, 5)] + someText(&state, 2)
		for left := range 24 {
			defs := []api.Def{{Name: "pad", Tree: padded(api.MaxNodes - left)}, {Name: "d", Tree: pair()}, {Name: "x_1", Tree: one(of('k', 'k'))}}
			if f := held(t, s, defs, false); f.E == api.ErrBig {
				full++
			}
		}
	}
	if full < 800 {
		t.Errorf("only %d that were too many", full)
	}
}

// padded is a tree of so many nodes, of which the Root is one without parts.
func padded(n int) api.Tree {
	return api.Tree{Nodes: slices.Repeat([]api.Node{{Op: api.Empty}}, n)}
}

// one is a tree of just a Set.
func one(l []api.Range) api.Tree {
	return api.Tree{Nodes: []api.Node{{Op: api.Set}}, Sets: [][]api.Range{l}}
}

// pair is a tree of a and b, one behind the other, with a node that is no part of it at the end.
func pair() api.Tree {
	return api.Tree{
		Nodes: []api.Node{{Op: api.Set, Set: 1}, {Op: api.Set}, {Op: api.Cat, A: 0, B: 1}, {Op: api.Empty}},
		Sets:  [][]api.Range{of('b', 'b'), of('a', 'a')},
		Root:  2,
	}
}

// zero tells whether a tree is the zero one, but for lists without an element.
func zero(t api.Tree) bool { return len(t.Nodes) == 0 && len(t.Sets) == 0 && t.Root == 0 }

// of are ranges, of two numbers each.
func of(n ...int) []api.Range {
	var l []api.Range
	for i := 0; i+1 < len(n); i += 2 {
		l = append(l, api.Range{Lo: n[i], Hi: n[i+1]})
	}
	return l
}

const top = api.MaxRune

// setShape tells a set: as its number, if that is just one letter or digit, else as a class.
func setShape(l []api.Range) string {
	if len(l) == 1 && l[0].Lo == l[0].Hi && l[0].Lo < 128 && escape.Plain(byte(l[0].Lo)) {
		return string(rune(l[0].Lo))
	}
	s := ""
	for _, r := range ranges.Of(l...) {
		s += strconv.Itoa(r.Lo) + "-" + strconv.Itoa(r.Hi) + " "
	}
	return "[" + strings.TrimSuffix(s, " ") + "]"
}

// shapeOf tells a tree's node with all of its parts: e is Empty, <xy> a Cat, <x|y> an Alt, x{lo,hi} a Rep.
func shapeOf(t api.Tree, i int) string {
	n := t.Nodes[i]
	switch n.Op {
	case api.Empty:
		return "e"
	case api.Set:
		return setShape(t.Sets[n.Set])
	case api.Cat:
		return "<" + shapeOf(t, n.A) + shapeOf(t, n.B) + ">"
	case api.Alt:
		return "<" + shapeOf(t, n.A) + "|" + shapeOf(t, n.B) + ">"
	}
	return shapeOf(t, n.A) + "{" + strconv.Itoa(n.Lo) + "," + strconv.Itoa(n.Hi) + "}"
}

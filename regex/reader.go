package regex

import (
	"slices"
	"strings"

	"spool/api"
	"spool/arena"
	"spool/bracket"
	"spool/escape"
	"spool/fold"
	"spool/ranges"
	"spool/utf"
	"spool/words"
)

// none is the number of no node.
const none = -1

// group is an expression whose end was not met yet: the whole one, or one in brackets.
type group struct {
	at     int // its `(`
	folded bool
	rows   int // the node of the rows that ended
	row    int // the node of the parts of the row that did not
	from   int // where that row begins
}

// opened tells a group that begins: its `(` is at a byte, and what is in it comes from a byte on.
func opened(at, from int, folded bool) group {
	return group{at: at, folded: folded, rows: none, row: none, from: from}
}

// reader reads an expression from the left to the right: the groups that are open stand one in the other, the whole one first; at is what comes next, and fault is the first one that was met.
type reader struct {
	s     string
	defs  []api.Def
	b     *arena.Builder
	open  []group
	at    int
	fault api.Fault
}

// fail notes a fault, unless one was met ahead.
func (r *reader) fail(e api.Errno, at int) {
	if !r.failed() {
		r.fault = api.Fault{E: e, At: at}
	}
}

// failed tells whether a fault was met.
func (r *reader) failed() bool { return r.fault != api.Fault{} }

// comes tells whether a text comes next.
func (r *reader) comes(text string) bool { return strings.HasPrefix(r.s[r.at:], text) }

// top is the group that was opened last.
func (r *reader) top() *group { return &r.open[len(r.open)-1] }

// fits tells a new node's number on; none means that there is no room, which is a fault of what the node is of.
func (r *reader) fits(x, at int) int {
	if x == none {
		r.fail(api.ErrBig, at)
	}
	return x
}

// made makes a node by a method of the builder, of what begins at a byte.
func made[T any](r *reader, by func(*arena.Builder, T) int, what T, at int) int {
	return r.fits(by(r.b, what), at)
}

// joined makes a node of those that stand ahead, if there are some, and of one that begins at a byte.
func (r *reader) joined(pair func(x, y int) int, ahead, x, at int) int {
	if ahead == none {
		return x
	}
	return r.fits(pair(ahead, x), at)
}

// all reads all, and tells the node of it.
func (r *reader) all() int {
	for !r.failed() && r.at < len(r.s) {
		r.step()
	}
	r.rowEnds()
	if len(r.open) > 1 {
		r.fail(api.ErrForm, r.top().at)
	}
	return r.top().rows
}

// step reads an atom with how often it stands, or what stands between atoms.
func (r *reader) step() {
	at := r.at
	switch r.s[at] {
	case '|':
		r.rowEnds()
		r.at++
		r.top().from = r.at
	case '(':
		r.enter()
	case ')':
		r.leave()
	case '{':
		r.definition()
	case '"':
		r.part(r.quotes(), at)
	case '^', '$', '/':
		r.fail(api.ErrUnsupported, at)
	case '*', '+', '?', ']', '}':
		// Where these belong to something, they are read with that.
		r.fail(api.ErrForm, at)
	default:
		r.part(made(r, (*arena.Builder).Set, r.numbers(), at), at)
	}
}

// rowEnds puts the row that ends here behind the rows of its group.
func (r *reader) rowEnds() {
	g := r.top()
	if g.row == none {
		g.row = r.fits(r.b.Empty(), g.from)
	}
	g.rows = r.joined(r.b.Alt, g.rows, g.row, g.from)
	g.row = none
}

// part puts an atom that begins at a byte, with how often it stands, behind the row.
func (r *reader) part(x, at int) {
	if often(r.s[r.at:]) {
		x = r.repeated(x)
	}
	g := r.top()
	g.row = r.joined(r.b.Cat, g.row, x, at)
	// How often that comes now stands behind how often. It is asked for behind the Cat, whose place is ahead of it.
	if often(r.s[r.at:]) {
		r.fail(api.ErrUnsupported, r.at)
	}
}

// repeated reads how often an atom stands.
func (r *reader) repeated(x int) int {
	at := r.at
	t, length, e := read(r.s[at:])
	if e != api.OK {
		r.fail(e, at)
		return none
	}
	r.at += length
	return made(r, t.rep, x, at)
}

// enter opens a group.
func (r *reader) enter() {
	at, folded, sign := r.at, r.top().folded, "("
	if r.comes("(?") {
		folded, sign = true, "(?i:"
	}
	if !r.comes(sign) {
		r.fail(api.ErrUnsupported, at)
		return
	}
	// The whole is a group, too, that has no `(`.
	if len(r.open)-1 == api.MaxDepth {
		r.fail(api.ErrDeep, at)
		return
	}
	r.at += len(sign)
	r.open = append(r.open, opened(at, r.at, folded))
}

// leave closes a group, which is an atom of the one that it is in.
func (r *reader) leave() {
	last := len(r.open) - 1
	if last == 0 {
		r.fail(api.ErrForm, r.at)
		return
	}
	r.rowEnds()
	g := r.open[last]
	// Cut by three indices, so that a group that is opened later takes no room over from one that is closed.
	r.open = r.open[:last:last]
	r.at++
	r.part(g.rows, g.at)
}

// definition reads a name in braces.
func (r *reader) definition() {
	at := r.at
	name, _, ends := strings.Cut(r.s[at+len("{"):], "}")
	if !ends || !words.Name(name) {
		r.fail(api.ErrForm, at)
		return
	}
	i := slices.IndexFunc(r.defs, func(d api.Def) bool { return d.Name == name })
	if i < 0 {
		r.fail(api.ErrName, at)
		return
	}
	// Asked ahead, since the builder tells a tree that may not be and one that has no room in the same way.
	if arena.Check(r.defs[i].Tree) != api.OK {
		r.fail(api.ErrForm, at)
		return
	}
	r.at += len("{") + len(name) + len("}")
	r.part(made(r, (*arena.Builder).Graft, r.defs[i].Tree, at), at)
}

// quotes reads what stands in quotes.
func (r *reader) quotes() int {
	open, row := r.at, none
	for r.at++; !r.comes(`"`); {
		at := r.at
		if at == len(r.s) {
			r.fail(api.ErrForm, open)
			return none
		}
		row = r.joined(r.b.Cat, row, made(r, (*arena.Builder).Set, r.quoted(), at), at)
		if r.failed() {
			return none
		}
	}
	r.at++
	if row == none {
		return r.fits(r.b.Empty(), open)
	}
	return row
}

// quoted reads one of what stands in quotes.
func (r *reader) quoted() []api.Range {
	if !r.comes(`\`) {
		return r.cased(r.point())
	}
	at := r.at
	l := r.escaped()
	// Asked ahead of folding, behind which a letter is no number alone any more.
	if _, one := escape.One(l); !one {
		r.fail(api.ErrForm, at)
	}
	return r.cased(l)
}

// numbers reads an atom that is a set.
func (r *reader) numbers() []api.Range {
	switch r.s[r.at] {
	case '.':
		r.at++
		return ranges.Not([]api.Range{{Lo: '\n', Hi: '\n'}})
	case '[':
		return r.class()
	case '\\':
		return r.cased(r.escaped())
	}
	return r.cased(r.point())
}

// class reads a class, which is folded as it is read: ahead of its `^`.
func (r *reader) class() []api.Range {
	l, next, f := bracket.Parse(r.s, r.at, r.top().folded)
	if f != (api.Fault{}) {
		r.fail(f.E, f.At)
		return nil
	}
	r.at = next
	return l
}

// escaped reads an escape.
func (r *reader) escaped() []api.Range {
	l, next, e := escape.Parse(r.s, r.at)
	if e != api.OK {
		r.fail(e, r.at)
		return nil
	}
	r.at = next
	return l
}

// point reads a code point.
func (r *reader) point() []api.Range {
	c, length := utf.Get(r.s[r.at:])
	if c < 0 {
		r.fail(api.ErrForm, r.at)
		return nil
	}
	r.at += length
	return []api.Range{{Lo: c, Hi: c}}
}

// cased tells a set as it counts where the reader is: folded, or not.
func (r *reader) cased(l []api.Range) []api.Range {
	if r.top().folded {
		return fold.Set(l)
	}
	return l
}

package rulefile

import (
	"reflect"
	"regexp"
	"strings"
	"testing"

	"spool/action"
	"spool/api"
	"spool/arena"
	"spool/measure"
	"spool/regex"
)

// What a name and a word are, and lines of each kind, as patterns.
var (
	aName    = regexp.MustCompile(`\A[a-zA-Z_][a-zA-Z0-9_]{0,31}\z`)
	aWord    = regexp.MustCompile(`[^\x20\x09]+`)
	silent   = regexp.MustCompile(`\A[\x20\x09]*(#(?s:.*))?\z`)
	modeLine = regexp.MustCompile(`\A[\x20\x09]*mode([\x20\x09][^:]*)?\z`)
	letLine  = regexp.MustCompile(`\A[\x20\x09]*let[\x20\x09][^:]*:`)
)

// wordsOf tells a text's words, and where they begin.
func wordsOf(s string) ([]string, []int) {
	var l []string
	var at []int
	for _, w := range aWord.FindAllStringIndex(s, -1) {
		l, at = append(l, s[w[0]:w[1]]), append(at, w[0])
	}
	return l, at
}

// model is what Parse ought to tell, reckoned from the document's words; rest are the faults of lines that are no modes' ones.
type model struct {
	spec     api.Spec
	defs     []api.Def
	ofModes  []api.Fault
	ofOthers []api.Fault
}

// has tells whether a name is one of some.
func has(l []string, name string) bool {
	for _, x := range l {
		if x == name {
			return true
		}
	}
	return false
}

// modes finds all modes, and what is wrong with their lines; in tells by line the mode that holds there.
func (m *model) modes(text string) []int {
	var in []int
	from, now := 0, -1
	for _, line := range strings.Split(text, "\n") {
		l, at := wordsOf(line)
		switch {
		case silent.MatchString(line), letLine.MatchString(line):
		case !modeLine.MatchString(line):
			if now == -1 {
				m.spec.Modes, now = []string{"main"}, 0
			}
		case len(l) != 2:
			m.ofModes = append(m.ofModes, api.Fault{E: api.ErrForm, At: from + at[0]})
		case !aName.MatchString(l[1]):
			m.ofModes = append(m.ofModes, api.Fault{E: api.ErrName, At: from + at[1]})
		case has(m.spec.Modes, l[1]):
			m.ofModes = append(m.ofModes, api.Fault{E: api.ErrTwice, At: from + at[1]})
		case len(m.spec.Modes) == 16:
			m.ofModes = append(m.ofModes, api.Fault{E: api.ErrBig, At: from + at[1]})
		default:
			now = len(m.spec.Modes)
			m.spec.Modes = append(m.spec.Modes, l[1])
		}
		in = append(in, now)
		from += len(line) + 1
	}
	return in
}

// define reads a definition's line, which begins at a byte, and tells what is wrong with it.
func (m *model) define(line string, from int) api.Fault {
	colon := strings.Index(line, ":")
	l, at := wordsOf(line[:colon])
	if len(l) != 2 {
		return api.Fault{E: api.ErrForm, At: from + at[0]}
	}
	if !aName.MatchString(l[1]) {
		return api.Fault{E: api.ErrName, At: from + at[1]}
	}
	for _, d := range m.defs {
		if d.Name == l[1] {
			return api.Fault{E: api.ErrTwice, At: from + at[1]}
		}
	}
	if len(m.defs) == 128 {
		return api.Fault{E: api.ErrBig, At: from + at[1]}
	}
	t, f := m.tree(line[colon+1:], from+colon+1)
	if f.E == api.OK {
		m.defs = append(m.defs, api.Def{Name: l[1], Tree: t})
	}
	return f
}

// tree reads an expression with blanks about it, that begin at a byte.
func (m *model) tree(s string, from int) (api.Tree, api.Fault) {
	t, f := regex.Parse(strings.Trim(s, " \t"), m.defs, false)
	if f.E != api.OK {
		f.At += from + len(s) - len(strings.TrimLeft(s, " \t"))
	}
	return t, f
}

// rule reads a rule's line, which begins at a byte and stands in a mode, and tells what is wrong with it.
func (m *model) rule(line string, from, mode int) api.Fault {
	_, at := wordsOf(line)
	colon := strings.Index(line, ":")
	if colon < 0 {
		return api.Fault{E: api.ErrForm, At: from + at[0]}
	}
	a, f := action.Parse(line[:colon], m.spec.Modes)
	if f.E != api.OK {
		return api.Fault{E: f.E, At: from + f.At}
	}
	if len(m.spec.Rules) == 128 {
		return api.Fault{E: api.ErrBig, At: from + at[0]}
	}
	t, f := m.tree(line[colon+1:], from+colon+1)
	if f.E != api.OK {
		return f
	}
	if measure.Least(t) == 0 {
		tail := line[colon+1:]
		return api.Fault{E: api.ErrEmpty, At: from + len(line) - len(strings.TrimLeft(tail, " \t"))}
	}
	m.spec.Rules = append(m.spec.Rules, api.Rule{Mode: mode, Tree: t, Act: a})
	return api.Fault{}
}

// modelled is what Parse ought to tell.
func modelled(text string) (api.Spec, []api.Def, api.Fault) {
	var m model
	if len(text) > 65536 {
		return api.Spec{}, nil, api.Fault{E: api.ErrBig}
	}
	in := m.modes(text)
	from := 0
	for i, line := range strings.Split(text, "\n") {
		var f api.Fault
		switch {
		case silent.MatchString(line), modeLine.MatchString(line):
		case letLine.MatchString(line):
			f = m.define(line, from)
		default:
			f = m.rule(line, from, in[i])
		}
		if f.E != api.OK {
			m.ofOthers = append(m.ofOthers, f)
		}
		from += len(line) + 1
	}
	if len(m.spec.Rules) == 0 {
		m.ofOthers = append(m.ofOthers, api.Fault{E: api.ErrNone, At: len(text)})
	}
	for _, f := range append(m.ofModes, m.ofOthers...) {
		return api.Spec{}, nil, f
	}
	return m.spec, m.defs, api.Fault{}
}

// parses fails where Parse doesn't tell what it ought to; it tells whether there was no fault.
func parses(t *testing.T, text string) bool {
	t.Helper()
	want, defs, wrong := modelled(text)
	s, d, f := Parse(text)
	if f != wrong {
		t.Fatalf("Parse(%.2000q): %v, not %v", text, f, wrong)
	}
	if f != (api.Fault{}) && (s.Modes != nil || s.Rules != nil || d != nil) {
		t.Fatalf("Parse(%.2000q): %v, and not nothing", text, f)
	}
	if f == (api.Fault{}) && (!reflect.DeepEqual(s, want) || len(d) != len(defs) || len(d) > 0 && !reflect.DeepEqual(d, defs)) {
		t.Fatalf("Parse(%.2000q): %v, %v, not %v, %v", text, s, d, want, defs)
	}
	mayBe(t, s)
	return f == (api.Fault{})
}

// mayBe fails where a rule has another mode than one that is, goes to another one, or has a tree that may not be, or has the empty row (P18.3).
func mayBe(t *testing.T, s api.Spec) {
	t.Helper()
	for i, r := range s.Rules {
		if r.Mode < 0 || r.Mode >= len(s.Modes) || r.Act.Goto < -1 || r.Act.Goto >= len(s.Modes) || !action.Right(r.Act, s.Modes) {
			t.Fatalf("rule %d: mode %d, %v", i, r.Mode, r.Act)
		}
		if arena.Check(r.Tree) != api.OK || measure.Least(r.Tree) == 0 {
			t.Fatalf("rule %d: %v", i, r.Tree)
		}
	}
}

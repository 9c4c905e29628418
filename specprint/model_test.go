package specprint

import (
	"regexp"
	"slices"
	"strings"
	"testing"

	"spool/api"
	"spool/arena"
	"spool/regex"
	"spool/rulefile"
)

// aName is what a name is, as a pattern.
var aName = regexp.MustCompile(`\A[a-zA-Z_][a-zA-Z0-9_]{0,31}\z`)

// long has a name of as many bytes as one may have.
const long = "abcdefghijklmnopqrstuvwxyz_01234"

// kind is a tree, what is wrong with it, and, where nothing is, its text.
type kind struct {
	tree api.Tree
	e    api.Errno
	text string
}

// tree is an expression's tree.
func tree(t *testing.T, s string) api.Tree {
	t.Helper()
	r, f := regex.Parse(s, nil, false)
	if f != (api.Fault{}) {
		t.Fatalf("regex.Parse(%q): %v", s, f)
	}
	return r
}

// chain is a tree of a Set of a, and nodes of a kind upon it, each with the one ahead as its part, or as both.
func chain(n int, upon api.Node) api.Tree {
	l := []api.Node{{Op: api.Set}}
	for i := range n {
		upon.A = i
		if upon.Op != api.Rep {
			upon.B = i
		}
		l = append(l, upon)
	}
	return api.Tree{Nodes: l, Sets: [][]api.Range{{{Lo: 'a', Hi: 'a'}}}, Root: n}
}

// nested is a row of pairs of a and the pair ahead, each but the first in brackets; inmost stands with the first a.
func nested(pairs int, inmost api.Node) api.Tree {
	l := []api.Node{{Op: api.Set}, inmost}
	for range pairs {
		l = append(l, api.Node{Op: api.Cat, A: 0, B: len(l) - 1})
	}
	return api.Tree{Nodes: l, Sets: [][]api.Range{{{Lo: 'a', Hi: 'a'}}}, Root: len(l) - 1}
}

// kinds are trees of all kinds, right ones and wrong ones.
func kinds(t *testing.T) []kind {
	t.Helper()
	var l []kind
	for s, text := range map[string]string{
		"a": "a", "a|b": "a|b", " ": `[\u{20}]`, "abc": "abc", "a(b|c)d": "a(b|c)d", "(?i:x)y": `[\u{58}\u{78}]y`, `"a:b"`: `a[\u{3a}]b`, "a+": "a+", "a{2,}b?": "a{2,}b?", "(ab)*c": "(ab)*c", "()a": "()a", "é#": `[\u{e9}][\u{23}]`, `[^\u{0}-\u{10ffff}]`: `[^\u{0}-\u{10ffff}]`, `\u{a}`: `[\u{a}]`, "a|(b|c+)": "a|(b|c+)",
	} {
		l = append(l, kind{tree: tree(t, s), text: text})
	}
	for _, s := range []string{"", "a*", "a?", "a|", "a{0}", "a{0,7}", "(a*)+", "a*b?", "ab|c*", `[^\u{0}-\u{10ffff}]*`, `""`} {
		l = append(l, kind{tree: tree(t, s), e: api.ErrEmpty})
	}
	slices.SortStableFunc(l, func(a, b kind) int { return strings.Compare(a.text, b.text) })
	again := api.Node{Op: api.Rep, Lo: 1, Hi: -1}
	often := api.Node{Op: api.Rep, Hi: -1}
	return append(l,
		kind{tree: nested(33, api.Node{Op: api.Set}), text: strings.Repeat("a(", 32) + "aa" + strings.Repeat(")", 32)}, kind{tree: nested(34, api.Node{Op: api.Set}), e: api.ErrDeep}, kind{tree: nested(4000, api.Node{Op: api.Set}), e: api.ErrDeep},
		kind{tree: nested(32, api.Node{Op: api.Empty}), text: strings.Repeat("a(", 31) + "a()" + strings.Repeat(")", 31)}, kind{tree: nested(33, api.Node{Op: api.Empty}), e: api.ErrDeep},
		kind{tree: chain(33, again), text: strings.Repeat("(", 32) + "a+" + strings.Repeat(")+", 32)}, kind{tree: chain(34, again), e: api.ErrDeep}, kind{tree: chain(33, often), e: api.ErrEmpty}, kind{tree: chain(34, often), e: api.ErrDeep},
		kind{tree: api.Tree{}, e: api.ErrForm}, kind{tree: api.Tree{Nodes: []api.Node{{Op: api.Empty}}, Root: 1}, e: api.ErrForm}, kind{tree: api.Tree{Nodes: []api.Node{{Op: api.Set}}}, e: api.ErrForm}, kind{tree: api.Tree{Nodes: []api.Node{{Op: api.Set}}, Sets: [][]api.Range{{{Lo: 2, Hi: 1}}}}, e: api.ErrForm}, kind{tree: api.Tree{Nodes: []api.Node{{Op: api.Rep, Hi: -1}}}, e: api.ErrForm},
		kind{tree: chain(4096, again), e: api.ErrBig}, kind{tree: api.Tree{Nodes: []api.Node{{Op: api.Empty}}, Sets: make([][]api.Range, 4097)}, e: api.ErrBig}, kind{tree: api.Tree{Nodes: make([]api.Node, 4097), Root: -1}, e: api.ErrBig},
	)
}

// drawn is a rule whose tree is of a kind.
type drawn struct {
	mode int
	emit string
	to   int
	kind kind
}

// specOf makes a spec.
func specOf(modes []string, rules []drawn) api.Spec {
	s := api.Spec{Modes: modes}
	for _, r := range rules {
		s.Rules = append(s.Rules, api.Rule{Mode: r.mode, Tree: r.kind.tree, Act: api.Act{Emit: r.emit, Goto: r.to}})
	}
	return s
}

// wrong is what Check ought to tell, reckoned from the document's words.
func wrong(modes []string, rules []drawn) api.Errno {
	if len(modes) == 0 || len(rules) == 0 {
		return api.ErrNone
	}
	if len(modes) > 16 || len(rules) > 128 {
		return api.ErrBig
	}
	met, numbers := map[string]int{}, map[int]int{-1: 1}
	for i, m := range modes {
		if !aName.MatchString(m) {
			return api.ErrName
		}
		met[m]++
		numbers[i]++
	}
	if len(met) < len(modes) {
		return api.ErrTwice
	}
	for _, r := range rules {
		switch {
		case r.mode == -1 || numbers[r.mode] == 0 || numbers[r.to] == 0:
			return api.ErrMode
		case r.emit != "" && !aName.MatchString(r.emit):
			return api.ErrName
		case r.kind.e != api.OK:
			return r.kind.e
		}
	}
	return api.OK
}

// printed is what Print ought to tell of a spec that is right, however long it is.
func printed(modes []string, rules []drawn) string {
	var b strings.Builder
	for i, m := range modes {
		b.WriteString("mode " + m + "\n")
		for _, r := range rules {
			if r.mode != i {
				continue
			}
			act := "skip"
			if r.emit != "" {
				act = "emit " + r.emit
			}
			if r.to != -1 {
				act += " goto " + modes[r.to]
			}
			b.WriteString(act + " : " + r.kind.text + "\n")
		}
	}
	return b.String()
}

// grouped is what Grouped ought to tell.
func grouped(s api.Spec) []api.Rule {
	var l []api.Rule
	for i := range s.Modes {
		for _, r := range s.Rules {
			if r.Mode == i {
				l = append(l, r)
			}
		}
	}
	return l
}

// sameRules tells whether rules are the same, but for lists without an element.
func sameRules(a, b []api.Rule) bool {
	return slices.EqualFunc(a, b, func(x, y api.Rule) bool {
		return x.Mode == y.Mode && x.Act == y.Act && x.Tree.Root == y.Tree.Root && slices.Equal(x.Tree.Nodes, y.Tree.Nodes) && slices.EqualFunc(x.Tree.Sets, y.Tree.Sets, slices.Equal[[]api.Range])
	})
}

// back fails where what was printed isn't read as the same modes, and rules, grouped.
func back(t *testing.T, s api.Spec, text string) {
	t.Helper()
	again, defs, f := rulefile.Parse(text)
	if f != (api.Fault{}) || len(defs) > 0 || !slices.Equal(again.Modes, s.Modes) {
		t.Fatalf("%.200q is read as modes %q, %d definitions, %v", text, again.Modes, len(defs), f)
	}
	same := slices.EqualFunc(again.Rules, Grouped(s), func(x, y api.Rule) bool {
		return x.Mode == y.Mode && x.Act == y.Act && arena.Same(x.Tree, y.Tree)
	})
	if !same {
		t.Fatalf("%.200q is read as other rules", text)
	}
}

// holds fails where a spec isn't told as it ought to be, and tells whether it was printed.
func holds(t *testing.T, modes []string, rules []drawn) bool {
	t.Helper()
	s := specOf(modes, rules)
	e := wrong(modes, rules)
	if got := Check(s); got != e {
		t.Fatalf("Check of modes %q, %d rules: %d, not %d", modes, len(rules), got, e)
	}
	if l := Grouped(s); !sameRules(l, grouped(s)) {
		t.Fatalf("Grouped of modes %q, %d rules: %v", modes, len(rules), l)
	}
	text := ""
	if e == api.OK {
		text = printed(modes, rules)
	}
	if len(text) > 65536 {
		text, e = "", api.ErrBig
	}
	if got, n := Print(s); got != text || n != e {
		t.Fatalf("Print of modes %q, %d rules: %.200q, %d, not %.200q, %d", modes, len(rules), got, n, text, e)
	}
	if e == api.OK {
		back(t, s, text)
	}
	return e == api.OK
}

// deepCopy is a spec that shares nothing with another one.
func deepCopy(s api.Spec) api.Spec {
	c := api.Spec{Modes: slices.Clone(s.Modes), Rules: slices.Clone(s.Rules)}
	for i, r := range s.Rules {
		c.Rules[i].Tree.Nodes = slices.Clone(r.Tree.Nodes)
		c.Rules[i].Tree.Sets = slices.Clone(r.Tree.Sets)
		for k, l := range r.Tree.Sets {
			c.Rules[i].Tree.Sets[k] = slices.Clone(l)
		}
	}
	return c
}

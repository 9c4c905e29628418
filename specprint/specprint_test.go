package specprint

import (
	"math"
	"math/rand"
	"reflect"
	"slices"
	"strconv"
	"strings"
	"testing"
	"unsafe"

	"spool/api"
	"spool/arena"
	"spool/deriv"
	"spool/rulefile"
)

// kindOf is the kind of an expression that prints as it stands.
func kindOf(t *testing.T, s string) kind {
	t.Helper()
	return kind{tree: tree(t, s), text: s}
}

// P19.2, P19.3: specs that are right, by hand.
func TestPrintByHand(t *testing.T) {
	for text, want := range map[string]string{
		"skip : a":                                   "mode main\nskip : a\n",
		"mode x\nskip:a":                             "mode x\nskip : a\n",
		"mode x\nmode y\nskip:a":                     "mode x\nmode y\nskip : a\n",
		"mode x\nskip:a\nmode y":                     "mode x\nskip : a\nmode y\n",
		"mode x\nmode y\nskip:a\nmode z":             "mode x\nmode y\nskip : a\nmode z\n",
		"let d : [0-9]\nemit NUM : {d}+\nskip : [ ]": "mode main\nemit NUM : [\\u{30}-\\u{39}]+\nskip : [\\u{20}]\n",
		"emit A goto b : a|b\nskip goto main : \t a:b \t\n\n# x\nmode b\nemit a goto b : a\nskip : b\nemit B : b": "mode main\nemit A goto b : a|b\nskip goto main : a[\\u{3a}]b\nmode b\nemit a goto b : a\nskip : b\nemit B : b\n",
		"emit skip : a\nemit mode:b\nemit emit goto goto : c\nmode goto\nmode mode\nskip goto mode : (a)((b))":    "mode main\nemit skip : a\nemit mode : b\nemit emit goto goto : c\nmode goto\nmode mode\nskip goto mode : ab\n",
		"emit A : a\nemit A : a\nemit A : a":                         "mode main\nemit A : a\nemit A : a\nemit A : a\n",
		"mode " + long + "\nemit " + long + " goto " + long + " : a": "mode " + long + "\nemit " + long + " goto " + long + " : a\n",
		"skip:[^\\u{0}-\\u{10ffff}]":                                 "mode main\nskip : [^\\u{0}-\\u{10ffff}]\n",
		"skip:()a|(b(cd))":                                           "mode main\nskip : ()a|b(cd)\n",
	} {
		s, _, f := rulefile.Parse(text)
		if f != (api.Fault{}) {
			t.Fatalf("rulefile.Parse(%q): %v", text, f)
		}
		if e := Check(s); e != api.OK {
			t.Errorf("Check of %q: %d", text, e)
		}
		if got, e := Print(s); got != want || e != api.OK {
			t.Errorf("Print of %q: %q, %d, not %q", text, got, e, want)
		}
		back(t, s, want)
		// Its rules stand mode by mode already, so that nothing moves.
		if l := Grouped(s); !sameRules(l, s.Rules) {
			t.Errorf("Grouped of %q: %v", text, l)
		}
	}
}

// P19.2, P19.3: rules whose modes stand in any order come mode by mode, each mode's in theirs.
func TestGroupedByHand(t *testing.T) {
	a := kindOf(t, "a")
	for want, l := range map[string][]drawn{
		"mode x\nemit B : a\nmode y\nemit A : a\nmode z\n":                                                                       {{1, "A", -1, a}, {0, "B", -1, a}},
		"mode x\nmode y\nmode z\nemit A goto x : a\nskip goto z : a\n":                                                           {{2, "A", 0, a}, {2, "", 2, a}},
		"mode x\nemit C : a\nemit F : a\nmode y\nemit B : a\nemit E : a\nmode z\nemit A : a\nemit D : a\n":                       {{2, "A", -1, a}, {1, "B", -1, a}, {0, "C", -1, a}, {2, "D", -1, a}, {1, "E", -1, a}, {0, "F", -1, a}},
		"mode x\nemit B goto z : a\nskip : a\nemit A goto x : a\nmode y\nmode z\nskip goto y : a\nemit A goto x : a\nskip : a\n": {{2, "", 1, a}, {0, "B", 2, a}, {0, "", -1, a}, {2, "A", 0, a}, {2, "", -1, a}, {0, "A", 0, a}},
	} {
		s := specOf([]string{"x", "y", "z"}, l)
		if got, e := Print(s); got != want || e != api.OK {
			t.Errorf("Print: %q, %d, not %q", got, e, want)
		}
		holds(t, s.Modes, l)
	}
}

// P19.2: rules whose mode is none are left out, and nothing else is looked at.
func TestGroupedLeavesOut(t *testing.T) {
	rule := func(mode int, emit string) api.Rule { return api.Rule{Mode: mode, Act: api.Act{Emit: emit, Goto: 77}} }
	rules := []api.Rule{rule(1, "A"), rule(-1, "B"), rule(0, "9"), rule(3, "D"), rule(2, ""), rule(math.MinInt, "E"), rule(1, "A"), rule(math.MaxInt, "F"), rule(4, "G"), rule(0, "H"), rule(-2, "I")}
	for _, x := range []struct {
		modes []string
		want  []int
	}{
		{nil, nil}, {[]string{}, nil}, {[]string{"x"}, []int{2, 9}}, {[]string{"", ""}, []int{2, 9, 0, 6}}, {[]string{"9", "x", "9"}, []int{2, 9, 0, 6, 4}}, {[]string{"a b", "c", "d", "e"}, []int{2, 9, 0, 6, 4, 3}}, {make([]string, 40), []int{2, 9, 0, 6, 4, 3, 8}},
	} {
		var want []api.Rule
		for _, k := range x.want {
			want = append(want, rules[k])
		}
		if l := Grouped(api.Spec{Modes: x.modes, Rules: rules}); !sameRules(l, want) {
			t.Errorf("Grouped of modes %q: %v, not %v", x.modes, l, want)
		}
	}
	if l := Grouped(api.Spec{Modes: []string{"x"}}); len(l) != 0 {
		t.Errorf("Grouped of no rules: %v", l)
	}
	if l := Grouped(api.Spec{}); len(l) != 0 {
		t.Errorf("Grouped of nothing: %v", l)
	}
}

// P19.1: what is wrong with modes, and with how many there are, by hand.
func TestCheckOfModes(t *testing.T) {
	a, bad := kindOf(t, "a"), kind{e: api.ErrForm}
	right, ill := []drawn{{0, "", -1, a}}, []drawn{{-1, "9", -2, bad}}
	for _, x := range []struct {
		modes []string
		rules []drawn
		want  api.Errno
	}{
		{nil, nil, api.ErrNone}, {[]string{}, right, api.ErrNone}, {nil, ill, api.ErrNone}, {[]string{"x"}, nil, api.ErrNone}, {[]string{"9", "9"}, []drawn{}, api.ErrNone}, {[]string{"x"}, right, api.OK},
		{letters(16), right, api.OK}, {letters(17), right, api.ErrBig}, {letters(18), right, api.ErrBig}, {letters(1000), ill, api.ErrBig}, {make([]string, 17), right, api.ErrBig}, {letters(17), nil, api.ErrNone}, {append(letters(15), "aa"), right, api.ErrTwice}, {append(letters(16), "aa"), right, api.ErrBig},
		{letters(1), slices.Repeat(right, 128), api.OK}, {letters(1), slices.Repeat(right, 129), api.ErrBig}, {letters(1), slices.Repeat(ill, 129), api.ErrBig}, {[]string{"9"}, slices.Repeat(ill, 129), api.ErrBig}, {letters(17), slices.Repeat(right, 129), api.ErrBig}, {letters(16), slices.Repeat(right, 128), api.OK}, {nil, slices.Repeat(right, 129), api.ErrNone},
		{[]string{""}, right, api.ErrName}, {[]string{"9"}, right, api.ErrName}, {[]string{"x", "a b"}, right, api.ErrName}, {[]string{"x", "x", "é"}, right, api.ErrName}, {[]string{"9", "9"}, ill, api.ErrName}, {[]string{long, long + "5"}, right, api.ErrName}, {[]string{long}, right, api.OK}, {[]string{"x\n"}, right, api.ErrName}, {[]string{"x", "y", "#", "z"}, ill, api.ErrName}, {[]string{":"}, right, api.ErrName},
		{[]string{"x", "x"}, right, api.ErrTwice}, {[]string{"x", "y", "z", "x"}, ill, api.ErrTwice}, {[]string{"y", "x", "x", "z"}, right, api.ErrTwice}, {[]string{"x", "X"}, right, api.OK}, {[]string{"xx", "x", "xxx"}, right, api.OK}, {[]string{"main", "main"}, right, api.ErrTwice}, {[]string{"mode", "skip", "emit", "goto", "let"}, right, api.OK},
	} {
		if e := Check(specOf(x.modes, x.rules)); e != x.want {
			t.Errorf("Check of modes %q, %d rules: %d, not %d", x.modes, len(x.rules), e, x.want)
		}
		holds(t, x.modes, x.rules)
	}
}

// letters are names, all unlike.
func letters(n int) []string {
	var l []string
	for i := range n {
		l = append(l, string([]byte{byte('a' + i/676%26), byte('a' + i/26%26), byte('a' + i%26)}[min(1, 1-i/676):]))
	}
	return l
}

// P19.1: a rule's mode and goto, numbers from the whole range.
func TestCheckOfNumbers(t *testing.T) {
	a := kindOf(t, "a")
	numbers := []int{math.MinInt, math.MinInt + 1, math.MinInt32, -256, -3, -2, -1, 0, 1, 2, 3, 4, 15, 16, 17, 255, 256, math.MaxInt32, 1 << 32, math.MaxInt - 1, math.MaxInt}
	for _, modes := range [][]string{letters(1), letters(2), letters(3), letters(16)} {
		for _, mode := range numbers {
			for _, to := range numbers {
				want := api.OK
				if mode < 0 || mode >= len(modes) || to < -1 || to >= len(modes) {
					want = api.ErrMode
				}
				l := []drawn{{0, "", -1, a}, {mode, "A", to, a}}
				if e := Check(specOf(modes, l)); e != want {
					t.Errorf("Check of mode %d, goto %d of %d modes: %d, not %d", mode, to, len(modes), e, want)
				}
				holds(t, modes, l)
			}
		}
	}
}

// P19.1: what is emitted: each byte at each end, and each length.
func TestCheckOfEmitted(t *testing.T) {
	a := kindOf(t, "a")
	emits := func(s string) {
		want := api.OK
		if s != "" && !aName.MatchString(s) {
			want = api.ErrName
		}
		l := []drawn{{0, s, -1, a}}
		if e := Check(specOf([]string{"x"}, l)); e != want {
			t.Errorf("Check of what emits %q: %d, not %d", s, e, want)
		}
		holds(t, []string{"x"}, l)
	}
	for c := range 256 {
		s := string([]byte{byte(c)})
		for _, e := range []string{s, s + "a", "a" + s, "a" + s + "b", long[:31] + s, long + s} {
			emits(e)
			// The same is so of a mode's name.
			if got := Check(specOf([]string{"m", e}, []drawn{{0, "", 1, a}})); (got == api.OK) != (aName.MatchString(e) && e != "m") {
				t.Errorf("Check of a mode %q: %d", e, got)
			}
		}
	}
	for n := range 70 {
		emits(strings.Repeat("q", n))
	}
	emits(strings.Repeat("q", 1<<20))
}

// P19.1: trees of all kinds, in each place of some rules.
func TestCheckOfTrees(t *testing.T) {
	a := kindOf(t, "a")
	for _, k := range kinds(t) {
		for at := range 3 {
			l := []drawn{{0, "", -1, a}, {1, "A", 0, a}, {0, "B", 1, a}}
			l[at].kind = k
			s := specOf([]string{"x", "y"}, l)
			if e := Check(s); e != k.e {
				t.Errorf("Check of a tree of %d nodes, %q: %d, not %d", len(k.tree.Nodes), k.text, e, k.e)
			}
			holds(t, s.Modes, l)
		}
	}
}

// P19.1: which trees have the empty row, by what is left of an expression.
func TestEmptyRow(t *testing.T) {
	var l []api.Tree
	atoms := []string{"a", "()", "[^\\u{0}-\\u{10ffff}]", "\\u{d800}", "[\\u{d800}é]"}
	often := []string{"", "*", "+", "?", "{0}", "{2}", "{0,3}", "{1,}"}
	for _, x := range atoms {
		for _, n := range often {
			l = append(l, tree(t, x+n), tree(t, "("+x+n+")*"), tree(t, "("+x+n+"){2}"))
			for _, y := range atoms {
				for _, m := range often {
					l = append(l, tree(t, x+n+y+m), tree(t, x+n+"|"+y+m), tree(t, "("+x+n+"|"+y+m+")+b"), tree(t, "("+x+n+y+m+"){0,2}"))
				}
			}
		}
	}
	for _, u := range l {
		want := api.OK
		if deriv.Nullable(u) {
			want = api.ErrEmpty
		}
		s := api.Spec{Modes: []string{"x"}, Rules: []api.Rule{{Tree: u, Act: api.Act{Goto: -1}}}}
		if e := Check(s); e != want {
			t.Errorf("Check of %v: %d, not %d", u, e, want)
		}
		text, e := Print(s)
		if e != want || (text == "") != (want != api.OK) {
			t.Errorf("Print of %v: %q, %d, not %d", u, text, e, want)
		}
		if e == api.OK {
			back(t, s, text)
		}
	}
}

// P19.1: of all that is wrong with rules the first is told, from above, and of one rule in the chapter's order.
func TestFirstIsTold(t *testing.T) {
	a := kindOf(t, "a")
	var ways []drawn
	for _, mode := range []int{1, 2, -1} {
		for _, to := range []int{-1, 0, -2} {
			for _, emit := range []string{"", "A", "9"} {
				for _, k := range []kind{a, {e: api.ErrForm}, {tree: chain(4096, api.Node{Op: api.Cat}), e: api.ErrBig}, {tree: chain(34, api.Node{Op: api.Rep, Hi: -1}), e: api.ErrDeep}, {tree: tree(t, "a*"), e: api.ErrEmpty}} {
					ways = append(ways, drawn{mode, emit, to, k})
				}
			}
		}
	}
	for _, modes := range [][]string{{"x", "y"}, {"x", "9"}, {"x", "x"}} {
		for _, r := range ways {
			holds(t, modes, []drawn{r})
			holds(t, modes, []drawn{{0, "", -1, a}, r, {-7, "9", -7, a}})
			for _, other := range ways {
				s := specOf(modes, []drawn{r, other})
				if e := Check(s); e != wrong(modes, []drawn{r, other}) {
					t.Errorf("Check of modes %q, rules %v and %v: %d", modes, r, other, e)
				}
				if text, e := Print(s); (text == "") != (e != api.OK) || e != Check(s) {
					t.Errorf("Print of modes %q, rules %v and %v: %q, %d", modes, r, other, text, e)
				}
			}
		}
	}
}

// P19.2: how long a rule's text may be.
func TestLongRule(t *testing.T) {
	letters := func(n int) api.Tree {
		l := []api.Node{{Op: api.Set}}
		for i := range n - 1 {
			l = append(l, api.Node{Op: api.Cat, A: i})
		}
		return api.Tree{Nodes: l, Sets: [][]api.Range{{{Lo: 'a', Hi: 'a'}}}, Root: n - 1}
	}
	a := tree(t, "a")
	for _, x := range []struct {
		tree api.Tree
		n    int
	}{
		{letters(4095), 4095}, {letters(4096), 4096}, {tree(t, strings.Repeat("é", 511)+"abcdefgh"), 4096}, {tree(t, strings.Repeat("é", 512)), 4096}, {tree(t, strings.Repeat("é", 512)+"a"), 4097}, {tree(t, strings.Repeat("é", 513)), 4104}, {chain(10, api.Node{Op: api.Cat}), 2046}, {chain(11, api.Node{Op: api.Cat}), 4094}, {chain(12, api.Node{Op: api.Cat}), 8190}, {chain(30, api.Node{Op: api.Cat}), 1 << 31},
	} {
		for at := range 3 {
			trees := []api.Tree{a, a, a}
			trees[at] = x.tree
			s := api.Spec{Modes: []string{"x", "y"}}
			for i, u := range trees {
				s.Rules = append(s.Rules, api.Rule{Mode: i % 2, Tree: u, Act: api.Act{Emit: "A", Goto: -1}})
			}
			if e := Check(s); e != api.OK {
				t.Errorf("Check of a rule of %d bytes: %d", x.n, e)
			}
			text, e := Print(s)
			if x.n > 4096 {
				if e != api.ErrBig || text != "" {
					t.Errorf("Print of a rule of %d bytes: %d bytes, %d", x.n, len(text), e)
				}
				continue
			}
			if e != api.OK || len(text) != len("mode x\nmode y\n")+3*len("emit A : \n")+2+x.n {
				t.Errorf("Print of a rule of %d bytes: %d bytes, %d", x.n, len(text), e)
			}
			// Each part that is read has nodes of its own: what is told more often than there may be nodes is not read.
			if arena.Size(x.tree) <= api.MaxNodes {
				back(t, s, text)
			}
		}
	}
}

// evens is a class of so many even numbers, as it is printed.
func evens(n int) string {
	var b strings.Builder
	for i := range n {
		b.WriteString("\\u{" + strconv.FormatInt(int64(0x100+2*i), 16) + "}")
	}
	return "[" + b.String() + "]"
}

// P19.2: how long the text may be, whatever stands at its end.
func TestMaxFile(t *testing.T) {
	wide := kindOf(t, evens(285))
	lone := func(n int) kind { return kindOf(t, strings.Repeat("x", n)) }
	for _, modes := range [][]string{{"x"}, {"x", "y"}, {"x", "y", long}, letters(16)} {
		for _, last := range []drawn{{0, "", -1, kind{}}, {len(modes) - 1, "", -1, kind{}}, {len(modes) / 2, "A", 0, kind{}}, {0, long, len(modes) - 1, kind{}}} {
			l := slices.Repeat([]drawn{{len(modes) / 2, "B", -1, wide}}, 32)
			last.kind = lone(1)
			room := 65536 - len(printed(modes, append(slices.Clone(l), last)))
			for _, n := range []int{-500, -2, -1, 0, 1, 2, 3} {
				last.kind = lone(1 + room + n)
				if ok := holds(t, modes, append(slices.Clone(l), last)); ok != (n <= 0) {
					t.Errorf("a text of %d bytes: %v", 65536+n, ok)
				}
			}
		}
	}
	// A mode without rules, too, may be what is too much.
	l := slices.Repeat([]drawn{{0, "", -1, wide}}, 32)
	l = append(l, drawn{0, "", -1, lone(65536 - len(printed([]string{"x"}, l)) - len("skip : \n") - len("mode yyy\n"))})
	for name, want := range map[string]bool{"y": true, "yy": true, "yyy": true, "yyyy": false, long: false} {
		if ok := holds(t, []string{"x", name}, l); ok != want {
			t.Errorf("with a mode %q: %v", name, ok)
		}
	}
	for n := 68; n < 78; n++ {
		holds(t, []string{"x"}, slices.Repeat([]drawn{{0, "", -1, kindOf(t, evens(n))}}, 128))
	}
	holds(t, []string{"x"}, slices.Repeat([]drawn{{0, "", -1, wide}}, 128))
}

// P19.1, P19.2, P19.3: specs of all kinds.
func TestMany(t *testing.T) {
	r := rand.New(rand.NewSource(19))
	all := kinds(t)
	var right []kind
	for _, k := range all {
		if k.e == api.OK {
			right = append(right, k)
		}
	}
	names := []string{"x", "y", "z", "main", "skip", "emit", "goto", "mode", "let", "_", "a9", long}
	good := 0
	for range 20000 {
		odd := func() bool { return r.Intn(60) == 0 }
		var modes []string
		for _, i := range r.Perm(len(names))[:1+r.Intn(len(names))] {
			modes = append(modes, names[i])
		}
		if odd() {
			modes = append(modes, []string{"x", "9", "", "a b", "main", "y:"}[r.Intn(6)])
		}
		var l []drawn
		for range 1 + r.Intn(12) {
			d := drawn{r.Intn(len(modes)), append(names, "", "", "", "", "A")[r.Intn(len(names)+5)], r.Intn(len(modes)+1) - 1, right[r.Intn(len(right))]}
			if odd() {
				d.mode = r.Intn(len(modes)+8) - 4
			}
			if odd() {
				d.to = r.Intn(len(modes)+8) - 4
			}
			if odd() {
				d.emit = []string{"9", " ", "a b", "é", "A\n", long + "5"}[r.Intn(6)]
			}
			if odd() {
				d.kind = all[r.Intn(len(all))]
			}
			l = append(l, d)
		}
		if holds(t, modes, l) {
			good++
		}
	}
	if good < 5000 || good > 19000 {
		t.Errorf("%d specs were right", good)
	}
}

// P19.3: what is printed of what was read of it is the same text.
func TestPrintedAgain(t *testing.T) {
	text := "mode a\nemit A goto b : a|(b|c)\nskip : [\\u{20}]+\nmode b\nmode c\nemit C : (ab){2,3}\n"
	s, _, _ := rulefile.Parse(text)
	s.Rules[0], s.Rules[2] = s.Rules[2], s.Rules[0]
	s.Rules[1], s.Rules[2] = s.Rules[2], s.Rules[1]
	for range 3 {
		got, e := Print(s)
		if got != text || e != api.OK {
			t.Fatalf("Print: %q, %d", got, e)
		}
		s, _, _ = rulefile.Parse(got)
	}
}

// spoiled writes over all of some rules, and over the room behind their lists.
func spoiled(l []api.Rule) {
	for i := range l {
		x := l[i].Tree
		for k, set := range x.Sets {
			for j := range set {
				set[j] = api.Range{Lo: -7, Hi: -7}
			}
			_ = append(set, api.Range{Lo: -8, Hi: -8})
			x.Sets[k] = nil
		}
		_ = append(x.Sets, nil, nil)
		for k := range x.Nodes {
			x.Nodes[k] = api.Node{Op: -7}
		}
		_ = append(x.Nodes, api.Node{Op: -8})
		l[i] = api.Rule{Mode: -7}
	}
	_ = append(l, api.Rule{Mode: -8})
}

// withRoom is a spec whose rules have all lists in common, with room behind them, and one list that is cut to nothing.
func withRoom() api.Spec {
	set := []api.Range{{Lo: 'a', Hi: 'b'}, {Lo: 'd', Hi: 'd'}, {Lo: 'z', Hi: 'z'}}
	sets := [][]api.Range{set[:2], set[:2], set[:0], set}
	nodes := []api.Node{{Op: api.Set}, {Op: api.Set, Set: 1}, {Op: api.Cat, B: 1}, {Op: api.Empty}}
	u := api.Tree{Nodes: nodes[:3], Sets: sets[:3], Root: 2}
	rules := []api.Rule{{Mode: 1, Tree: u, Act: api.Act{Emit: "A", Goto: 1}}, {Tree: u, Act: api.Act{Goto: -1}}, {Mode: 1, Tree: u, Act: api.Act{Goto: 0}}, {Mode: 5}}
	modes := []string{"x", "y", "9"}
	return api.Spec{Modes: modes[:2], Rules: rules[:3]}
}

// No two lists of an answer share memory, nor do they with what was handed in, and none is used again by a later call.
func TestNothingIsShared(t *testing.T) {
	s, want := withRoom(), grouped(deepCopy(withRoom()))
	for at := range want {
		l := Grouped(s)
		spoiled(l[at : at+1 : at+1])
		for i := range l {
			if i != at && !sameRules(l[i:i+1], want[i:i+1]) {
				t.Errorf("rule %d shares memory with rule %d", at, i)
			}
		}
		// Lists of one tree are apart, too.
		l = Grouped(s)
		l[at].Tree.Sets[0][0].Lo = -7
		if l[at].Tree.Sets[1][0].Lo != 'a' {
			t.Errorf("sets of rule %d share memory", at)
		}
	}
	l := Grouped(s)
	spoiled(l)
	if again := Grouped(s); !sameRules(again, want) || !reflect.DeepEqual(s, withRoom()) {
		t.Errorf("what was handed out is shared: %v", again)
	}
}

// What is handed in is not changed, nor the room behind it, and is not kept.
func TestNothingIsKept(t *testing.T) {
	s := withRoom()
	l, e := Grouped(s), Check(s)
	text, e2 := Print(s)
	whole := func(s api.Spec) ([]string, []api.Rule, []api.Node, [][]api.Range, []api.Range) {
		u := s.Rules[0].Tree
		return s.Modes[:3], s.Rules[:4], u.Nodes[:4], u.Sets[:4], u.Sets[0][:3]
	}
	m1, r1, n1, s1, x1 := whole(s)
	m2, r2, n2, s2, x2 := whole(withRoom())
	if !slices.Equal(m1, m2) || !reflect.DeepEqual(r1, r2) || !slices.Equal(n1, n2) || !reflect.DeepEqual(s1, s2) || !slices.Equal(x1, x2) {
		t.Errorf("changed: %v", s)
	}
	spoiled(r1)
	clear(m1)
	want := "mode x\nskip : [\\u{61}-\\u{62}\\u{64}][\\u{61}-\\u{62}\\u{64}]\nmode y\nemit A goto y : [\\u{61}-\\u{62}\\u{64}][\\u{61}-\\u{62}\\u{64}]\nskip goto x : [\\u{61}-\\u{62}\\u{64}][\\u{61}-\\u{62}\\u{64}]\n"
	if text != want || e != api.OK || e2 != api.OK || !sameRules(l, grouped(withRoom())) {
		t.Errorf("kept: %q, %v", text, l)
	}
}

// Texts that are handed in are not kept.
func TestNoTextIsKept(t *testing.T) {
	b := []byte("mainNUM")
	// Texts whose bytes change may be had in a test alone; they show whether one was kept.
	mode, emit := unsafe.String(&b[0], 4), unsafe.String(&b[4], 3)
	s := api.Spec{Modes: []string{mode}, Rules: []api.Rule{{Tree: tree(t, "a"), Act: api.Act{Emit: emit, Goto: 0}}}}
	text, _ := Print(s)
	l := Grouped(s)
	for i := range b {
		b[i] = 'z'
	}
	if text != "mode main\nemit NUM goto main : a\n" || l[0].Act.Emit != "NUM" {
		t.Errorf("kept: %q, %v", text, l)
	}
}

// The same is answered whatever was asked ahead.
func TestAgain(t *testing.T) {
	a := kindOf(t, "a")
	for range 3 {
		holds(t, []string{"x", "y"}, []drawn{{1, "A", 0, a}, {0, "", -1, a}})
		holds(t, []string{"x", "x"}, []drawn{{1, "A", 0, a}})
		holds(t, []string{"x"}, []drawn{{0, "A", 9, a}})
		holds(t, nil, nil)
	}
}

// Great specs are told of in good time.
func TestGreat(t *testing.T) {
	n := 1 << 19
	s := api.Spec{Modes: slices.Repeat([]string{"x"}, n), Rules: make([]api.Rule, n)}
	for k := range s.Rules {
		s.Rules[k].Mode = (k * 7) % (n + 9)
	}
	l := Grouped(s)
	if !slices.IsSortedFunc(l, func(a, b api.Rule) int { return a.Mode - b.Mode }) || len(l) < n-9 || Check(s) != api.ErrBig {
		t.Errorf("Grouped of %d rules: %d", n, len(l))
	}
	full := api.Tree{Nodes: slices.Repeat([]api.Node{{Op: api.Set}}, api.MaxNodes), Sets: [][]api.Range{nil}, Root: 9}
	for i := range 0x4000 {
		full.Sets[0] = append(full.Sets[0], api.Range{Lo: 2 * i, Hi: 2 * i})
	}
	double := chain(4095, api.Node{Op: api.Alt})
	for _, u := range []api.Tree{full, double, chain(33, api.Node{Op: api.Rep, Lo: 255, Hi: 255})} {
		s := api.Spec{Modes: letters(16)}
		for k := range 128 {
			s.Rules = append(s.Rules, api.Rule{Mode: k % 16, Tree: u, Act: api.Act{Goto: -1}})
		}
		e := Check(s)
		if text, e2 := Print(s); e2 == api.OK && e != api.OK || len(text) > 65536 {
			t.Errorf("Print of a great spec: %d bytes, %d, %d", len(text), e, e2)
		}
	}
}

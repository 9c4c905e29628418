package rulefile

import (
	"math/rand"
	"reflect"
	"slices"
	"strings"
	"testing"
	"unsafe"

	"spool/api"
	"spool/regex"
)

// long has a name of as many bytes as one may have.
const long = "abcdefghijklmnopqrstuvwxyz_01234"

// some are lines of all kinds, right ones and wrong ones.
var some = []string{
	"", " \t", "# emit A : a", "  #", "mode a", " mode\tb ", "mode main", "mode", "mode a b", "mode 9", "mode c:", "modes a",
	"let x : a", "\tlet y:{x}{x}\t", "let x : b*", "let", "let x", "let: a", "let 9 : a", "let x y : a", "let main :",
	"emit A : a", "emit B:{x}|b", "skip goto a : b", "skip goto main:c+ ", "emit B : a*", "emit 9 : a", "skip : (", "skip :\t", "what", ": a", "mode : a", "  \tskip\t:\ta:b \t",
}

// tree is an expression's tree, with definitions.
func tree(t *testing.T, s string, defs ...api.Def) api.Tree {
	t.Helper()
	r, f := regex.Parse(s, defs, false)
	if f != (api.Fault{}) {
		t.Fatalf("regex.Parse(%q): %v", s, f)
	}
	return r
}

// P18.1: files, by hand.
func TestParseByHand(t *testing.T) {
	d := api.Def{Name: "d", Tree: tree(t, "[0-9]")}
	e := api.Def{Name: "e", Tree: tree(t, "{d}+|", d)}
	a, b, digits := tree(t, "a"), tree(t, "b"), tree(t, "{d}+", d)
	stay := func(emit string) api.Act { return api.Act{Emit: emit, Goto: -1} }
	for text, want := range map[string]struct {
		modes []string
		rules []api.Rule
		defs  []api.Def
	}{
		"skip : a": {[]string{"main"}, []api.Rule{{Tree: a, Act: stay("")}}, nil},
		"let d : [0-9]\nemit NUM : {d}+\nskip : [ ]":          {[]string{"main"}, []api.Rule{{Tree: digits, Act: stay("NUM")}, {Tree: tree(t, "[ ]"), Act: stay("")}}, []api.Def{d}},
		"let d:[0-9]\nlet e:{d}+|\nemit A:{e}b":               {[]string{"main"}, []api.Rule{{Tree: tree(t, "{e}b", e), Act: stay("A")}}, []api.Def{d, e}},
		"\n\t\n#\nskip:a\n\n":                                 {[]string{"main"}, []api.Rule{{Tree: a, Act: stay("")}}, nil},
		"mode main\nskip:a":                                   {[]string{"main"}, []api.Rule{{Tree: a, Act: stay("")}}, nil},
		"mode x\nskip:a":                                      {[]string{"x"}, []api.Rule{{Tree: a, Act: stay("")}}, nil},
		"mode x\nmode main\nskip:a":                           {[]string{"x", "main"}, []api.Rule{{Mode: 1, Tree: a, Act: stay("")}}, nil},
		"skip:a\nmode x":                                      {[]string{"main", "x"}, []api.Rule{{Tree: a, Act: stay("")}}, nil},
		"skip:a\nmode x\nemit B:b":                            {[]string{"main", "x"}, []api.Rule{{Tree: a, Act: stay("")}, {Mode: 1, Tree: b, Act: stay("B")}}, nil},
		"let d : [0-9]\nmode x\nskip : a":                     {[]string{"x"}, []api.Rule{{Tree: a, Act: stay("")}}, []api.Def{d}},
		"mode x\nlet d : [0-9]\nmode y\nskip : {d}+":          {[]string{"x", "y"}, []api.Rule{{Mode: 1, Tree: digits, Act: stay("")}}, []api.Def{d}},
		"skip goto y : a\nmode x\nskip goto main : b\nmode y": {[]string{"main", "x", "y"}, []api.Rule{{Tree: a, Act: api.Act{Goto: 2}}, {Mode: 1, Tree: b}}, nil},
		"mode x\nmode y\nemit A goto x:a\nemit B goto y:b":    {[]string{"x", "y"}, []api.Rule{{Mode: 1, Tree: a, Act: api.Act{Emit: "A"}}, {Mode: 1, Tree: b, Act: api.Act{Emit: "B", Goto: 1}}}, nil},
		"emit A : a:b":                                        {[]string{"main"}, []api.Rule{{Tree: tree(t, "a:b"), Act: stay("A")}}, nil},
		"emit A :: :":                                         {[]string{"main"}, []api.Rule{{Tree: tree(t, ": :"), Act: stay("A")}}, nil},
		"skip:a#b":                                            {[]string{"main"}, []api.Rule{{Tree: tree(t, "a#b"), Act: stay("")}}, nil},
		" \temit\tA \t: \t a b\t ":                            {[]string{"main"}, []api.Rule{{Tree: tree(t, "a b"), Act: stay("A")}}, nil},
		"mode skip\nskip goto mode:a\nmode mode":              {[]string{"skip", "mode"}, []api.Rule{{Tree: a, Act: api.Act{Goto: 1}}}, nil},
		"emit mode:a\nemit let : b":                           {[]string{"main"}, []api.Rule{{Tree: a, Act: stay("mode")}, {Tree: b, Act: stay("let")}}, nil},
		"let let : [0-9]\nskip : a":                           {[]string{"main"}, []api.Rule{{Tree: a, Act: stay("")}}, []api.Def{{Name: "let", Tree: d.Tree}}},
		"mode " + long + "\nlet " + long + " : a\nemit " + long + ":{" + long + "}": {[]string{long}, []api.Rule{{Tree: tree(t, "{q}", api.Def{Name: "q", Tree: a}), Act: stay(long)}}, []api.Def{{Name: long, Tree: a}}},
	} {
		s, l, f := Parse(text)
		if f != (api.Fault{}) || !slices.Equal(s.Modes, want.modes) || !reflect.DeepEqual(s.Rules, want.rules) || len(l) != len(want.defs) || len(l) > 0 && !reflect.DeepEqual(l, want.defs) {
			t.Errorf("Parse(%q): %v, %v, %v, not %v", text, s, l, f, want)
		}
	}
}

// P18.1: a definition holds for the lines behind its own, whatever modes are there, and not for its own.
func TestDefinitionsHold(t *testing.T) {
	for text, want := range map[string]api.Fault{
		"let x : {x}\nskip : a": {E: api.ErrName, At: 8}, "let x : {y}\nlet y : a\nskip : a": {E: api.ErrName, At: 8}, "skip : {x}\nlet x : a": {E: api.ErrName, At: 7},
		"let x : a\nlet y : {x}\nskip : {y}": {}, "let x : a\nmode m\nlet y : {x}\nmode n\nskip : {y}{x}": {}, "mode m\nlet x : a\nskip : {x}\nmode n\nskip : {x}": {},
		"let x : a\nskip : {x}\nlet y : {x}b\nskip : {y}{z}": {E: api.ErrName, At: 44}, "let x : a\nskip : {X}": {E: api.ErrName, At: 17},
	} {
		if _, _, f := Parse(text); f != want {
			t.Errorf("Parse(%q): %v, not %v", text, f, want)
		}
		parses(t, text)
	}
}

// P18.1: nothing is folded but what says so itself.
func TestNothingIsFolded(t *testing.T) {
	s, d, f := Parse("let x : a\nskip : b{x}\nemit C : (?i:c{x})")
	if f != (api.Fault{}) || !slices.Equal(d[0].Tree.Sets[0], []api.Range{{Lo: 'a', Hi: 'a'}}) {
		t.Fatalf("%v, %v", d, f)
	}
	if !reflect.DeepEqual(s.Rules[0].Tree, tree(t, "b{x}", d...)) || !reflect.DeepEqual(s.Rules[1].Tree, tree(t, "[cC]{x}", d...)) {
		t.Errorf("%v", s.Rules)
	}
}

// P18.2: faults of modes' lines, by hand.
func TestModesFaults(t *testing.T) {
	for text, want := range map[string]api.Fault{
		"mode": {E: api.ErrForm}, "  mode\t": {E: api.ErrForm, At: 2}, "mode a b": {E: api.ErrForm}, "\tmode 9 9": {E: api.ErrForm, At: 1}, "skip:a\n mode # main": {E: api.ErrForm, At: 8}, "mode mode mode": {E: api.ErrForm},
		"mode 9": {E: api.ErrName, At: 5}, "mode \t é": {E: api.ErrName, At: 7}, "mode a\r\nskip:a": {E: api.ErrName, At: 5}, "mode " + long + "5": {E: api.ErrName, At: 5}, "mode a-b": {E: api.ErrName, At: 5}, "mode #a": {E: api.ErrName, At: 5},
		"mode a\nmode a": {E: api.ErrTwice, At: 12}, "mode a\nmode b\nskip:a\n mode  a\nmode b": {E: api.ErrTwice, At: 28}, "mode main\nmode main": {E: api.ErrTwice, At: 15},
		// Each line that is none of a mode or a definition makes main, whatever is wrong with it.
		"skip : a\nmode main": {E: api.ErrTwice, At: 14}, "skip : a\nmode b\nmode main": {E: api.ErrTwice, At: 21}, "what\nmode main": {E: api.ErrTwice, At: 10}, "let\nmode main": {E: api.ErrTwice, At: 9}, "let x\nmode main": {E: api.ErrTwice, At: 11},
		"let: a\nmode main": {E: api.ErrTwice, At: 12}, "mode:\nmode main": {E: api.ErrTwice, At: 11}, "mode x :\nmode main": {E: api.ErrTwice, At: 14}, ":\nmode main": {E: api.ErrTwice, At: 7},
		// These don't.
		"let x : a\nmode main\nskip : a": {}, "let :\nmode main\nskip:a": {E: api.ErrForm}, "# skip : a\nmode main\nskip : a": {}, "mode b\nskip : a\nmode main": {}, " \nmode main\nskip:a": {},
		"mode b\nwhat\nmode main": {E: api.ErrForm, At: 7},
		// They are told first, from above.
		"what\nmode": {E: api.ErrForm, At: 5}, "skip : (\nmode 9": {E: api.ErrName, At: 14}, "let 9 : a\nskip : a*\nmode b\nmode b\nmode 9": {E: api.ErrTwice, At: 32}, "skip:(\nmode 9\nmode": {E: api.ErrName, At: 12}, "mode a a\nmode 9": {E: api.ErrForm},
		"emit A goto x : a\nmode\n": {E: api.ErrForm, At: 18}, "let x : (\nmode a\nmode": {E: api.ErrForm, At: 17},
	} {
		s, d, f := Parse(text)
		if f != want || f.E != api.OK && (s.Modes != nil || s.Rules != nil || d != nil) {
			t.Errorf("Parse(%q): %v, not %v", text, f, want)
		}
		parses(t, text)
	}
}

// P18.2: faults of definitions' lines, by hand.
func TestDefinitionsFaults(t *testing.T) {
	for text, want := range map[string]api.Fault{
		"let : a": {E: api.ErrForm}, " let  : a": {E: api.ErrForm, At: 1}, "skip:a\n\tlet x y : a": {E: api.ErrForm, At: 8}, "let x y z : (": {E: api.ErrForm}, "let 9 9 :": {E: api.ErrForm},
		"let 9 : a": {E: api.ErrName, At: 4}, "let \t9 : (": {E: api.ErrName, At: 5}, "let é:": {E: api.ErrName, At: 4}, "let " + long + "5:a": {E: api.ErrName, At: 4}, "let #:a": {E: api.ErrName, At: 4},
		"let x : a\nlet x : b": {E: api.ErrTwice, At: 14}, "let x : a\nskip:a\nmode m\n let  x:(": {E: api.ErrTwice, At: 30},
		"let x : (": {E: api.ErrForm, At: 8}, "let x :(": {E: api.ErrForm, At: 7}, "let x : \t a{2,1}": {E: api.ErrRange, At: 11}, "let x:^": {E: api.ErrUnsupported, At: 6}, "let x : {y}": {E: api.ErrName, At: 8}, "skip:a\nlet x : \t ab) ": {E: api.ErrForm, At: 19},
		"let x : [" + strings.Repeat("a", 4094) + "]\nskip : a": {}, "let x :  " + strings.Repeat("a", 4097) + "\nskip : a": {E: api.ErrBig, At: 9}, "let x : " + strings.Repeat("(", 33) + strings.Repeat(")", 33): {E: api.ErrDeep, At: 40},
		// What it stands for may be nothing, or have the empty row.
		"let x :\nskip : {x}a": {}, "let x : a*\nskip : {x}b": {}, "let x : |\nskip : {x}": {E: api.ErrEmpty, At: 17},
		// A name of a mode, or of what is emitted, is another one.
		"let main : a\nemit main : a": {}, "mode x\nlet x : a\nskip : a": {},
	} {
		if _, _, f := Parse(text); f != want {
			t.Errorf("Parse(%.200q): %v, not %v", text, f, want)
		}
		parses(t, text)
	}
}

// P18.2: faults of rules' lines, by hand.
func TestRulesFaults(t *testing.T) {
	for text, want := range map[string]api.Fault{
		"what": {E: api.ErrForm}, " what": {E: api.ErrForm, At: 1}, "skip": {E: api.ErrForm}, "emit 9": {E: api.ErrForm}, "skip:a\n emit": {E: api.ErrForm, At: 8}, "let": {E: api.ErrForm}, "\tlet x": {E: api.ErrForm, At: 1}, "\r": {E: api.ErrForm}, "skip:a\n\r\n": {E: api.ErrForm, At: 7},
		"modes a": {E: api.ErrForm}, "Mode a": {E: api.ErrForm}, "é": {E: api.ErrForm},
		": a": {E: api.ErrForm}, "  : a": {E: api.ErrForm, At: 2}, "what : a": {E: api.ErrForm}, "mode a : a": {E: api.ErrForm}, "mode: a": {E: api.ErrForm}, "let: a": {E: api.ErrForm}, " let:x : a": {E: api.ErrForm, At: 1}, "lets x : a": {E: api.ErrForm},
		"emit : a": {E: api.ErrForm, At: 5}, "emit:a": {E: api.ErrForm, At: 4}, "skip goto : a": {E: api.ErrForm, At: 10}, "skip x : (": {E: api.ErrForm, At: 5}, "skip:a\nemit 9 : (": {E: api.ErrName, At: 12}, "emit A goto x : a": {E: api.ErrMode, At: 12}, "skip goto main x : a": {E: api.ErrForm, At: 15},
		"mode x\nskip goto main : a": {E: api.ErrMode, At: 17}, "skip goto main : a": {}, "mode x\n\tskip goto 9 : a": {E: api.ErrName, At: 18},
		"skip : (": {E: api.ErrForm, At: 7}, "skip:(": {E: api.ErrForm, At: 5}, "skip:a\nemit A : \tab(?x)": {E: api.ErrUnsupported, At: 19}, "emit A : a{256}": {E: api.ErrBig, At: 10}, "skip : \\": {E: api.ErrForm, At: 7}, "skip : \\ ": {E: api.ErrForm, At: 7}, "skip : a\r": {},
		"skip : [" + strings.Repeat("a", 4094) + "]": {}, "skip : [" + strings.Repeat("a", 4094) + "]" + strings.Repeat(" ", 5000): {}, "skip : " + strings.Repeat("a", 4097): {E: api.ErrBig, At: 7},
		"skip :": {E: api.ErrEmpty, At: 6}, "skip :  \t": {E: api.ErrEmpty, At: 9}, "skip :  \nskip:a": {E: api.ErrEmpty, At: 8}, "skip:a*": {E: api.ErrEmpty, At: 5}, "skip : \t a|b?": {E: api.ErrEmpty, At: 9}, "skip:a\n skip : \"\"": {E: api.ErrEmpty, At: 15}, "emit A : a{0,3}": {E: api.ErrEmpty, At: 9},
		// What has no text at all has no empty row either.
		"emit A : [^\\u{0}-\\u{10ffff}]": {}, "emit A : [^\\u{0}-\\u{10ffff}]*": {E: api.ErrEmpty, At: 9},
		// From above.
		"skip : a*\nskip : (": {E: api.ErrEmpty, At: 7}, "skip : (\nskip : a*": {E: api.ErrForm, At: 7}, "let x : (\nwhat": {E: api.ErrForm, At: 8}, "what\nlet x : (": {E: api.ErrForm}, "skip:a\nlet 9:a\nwhat": {E: api.ErrName, At: 11},
	} {
		if _, _, f := Parse(text); f != want {
			t.Errorf("Parse(%.200q): %v, not %v", text, f, want)
		}
		parses(t, text)
	}
}

// P18.2: without rules.
func TestNoRules(t *testing.T) {
	for _, text := range []string{"", "\n", " ", "# a\n", "#skip : a", "mode a", "mode a\nmode main\n", "let x : a", "let x : a*\n\n", "mode b\nlet x : a\nlet y : b\n# c"} {
		if s, d, f := Parse(text); f != (api.Fault{E: api.ErrNone, At: len(text)}) || s.Modes != nil || s.Rules != nil || d != nil {
			t.Errorf("Parse(%q): %v, %v, %v", text, s, d, f)
		}
		parses(t, text)
	}
}

// P18.2: how many bytes a file may have.
func TestMaxFile(t *testing.T) {
	for _, x := range []struct {
		begin, fill string
	}{{"skip : a\n", "#"}, {"skip : a\n", "\n"}, {"skip : a\n#", "é"}, {"", "\n"}, {"", " "}, {"what\n", "x"}, {"skip : a", " "}, {"#", "\x00"}, {"mode 9\n", " "}, {"", "a "}, {"", "a\n"}, {"skip:", "a"}, {"skip:a\n", "skip:a\n"}, {"", "mode a\n"}, {"skip:a\n", "let "}} {
		text := x.begin + strings.Repeat(x.fill, 40000)
		for _, n := range []int{65535, 65536, 65537, 65538, 80000} {
			if n > len(text) {
				continue
			}
			parses(t, text[:n])
			if _, _, f := Parse(text[:n]); (f == api.Fault{E: api.ErrBig}) != (n > 65536) {
				t.Errorf("Parse of %d bytes of %q: %v", n, x.begin+x.fill, f)
			}
		}
	}
	for _, n := range []int{1 << 20, 1 << 24} {
		if _, _, f := Parse(strings.Repeat("\n", n)); f != (api.Fault{E: api.ErrBig}) {
			t.Errorf("Parse of %d line ends: %v", n, f)
		}
	}
}

// letters is a name of two letters, another one for each number.
func letters(i int) string { return string([]byte{byte('a' + i/26), byte('a' + i%26)}) }

// rows are lines of a form, each with another name.
func rows(begin, end string, n int) string {
	var b strings.Builder
	for i := range n {
		b.WriteString(begin + letters(i) + end + "\n")
	}
	return b.String()
}

// P18.2: how many modes, definitions and rules there may be; what is told ahead of that.
func TestLimits(t *testing.T) {
	for _, x := range []struct {
		text string
		e    api.Errno
		at   string
	}{
		{rows("mode ", "", 16) + "skip:a", api.OK, ""}, {rows("mode ", "", 17) + "skip:a", api.ErrBig, "aq"}, {rows("mode ", "", 20) + "skip:a", api.ErrBig, "aq"}, {rows("mode ", "", 16) + "mode ab\nskip:a", api.ErrTwice, "ab\nskip"}, {rows("mode ", "", 16) + "mode 9", api.ErrName, "9"},
		{rows("mode ", "", 16) + "mode a b", api.ErrForm, "mode a b"}, {rows("mode ", "", 16) + "what\nmode main", api.ErrBig, "main"}, {rows("mode ", "", 16) + "what\nmode xx\nmode main", api.ErrBig, "xx"},
		// One that no line makes is one of them.
		{"skip:a\n" + rows("mode ", "", 15), api.OK, ""}, {"skip:a\n" + rows("mode ", "", 16), api.ErrBig, "ap"}, {"skip:a\n" + rows("mode ", "", 15) + "mode main", api.ErrTwice, "main"},
		{rows("let ", ":a", 128) + "skip:a", api.OK, ""}, {rows("let ", ":a", 129) + "skip:a", api.ErrBig, "ey"}, {rows("let ", ":a", 128) + "let xx:(", api.ErrBig, "xx"}, {rows("let ", ":a", 128) + "let ab:(", api.ErrTwice, "ab:("}, {rows("let ", ":a", 128) + "let 9:(", api.ErrName, "9"}, {rows("let ", ":a", 128) + "let :(", api.ErrForm, "let :"},
		{rows("emit ", ":a", 128), api.OK, ""}, {rows("emit ", ":a", 129), api.ErrBig, "emit ey"}, {rows("mode m\n emit ", ":a", 2), api.ErrTwice, "m\n emit ab"}, {rows("emit ", ":a", 128) + " \tskip:(", api.ErrBig, "skip"}, {rows("emit ", ":a", 128) + " skip:", api.ErrBig, "skip"}, {rows("emit ", ":a", 128) + "skip", api.ErrForm, "skip"},
		{rows("emit ", ":a", 128) + "emit 9:", api.ErrName, "9"}, {rows("emit ", ":a", 128) + "emit A goto xx:", api.ErrMode, "xx"}, {rows("emit ", ":a", 64) + "mode x\n" + rows("emit ", ":a", 65), api.ErrBig, "emit cm\n"}, {rows("let ", ":a", 128) + rows("emit ", ":a", 128), api.OK, ""},
	} {
		want := api.Fault{E: x.e, At: max(0, strings.Index(x.text, x.at))}
		if x.at == "emit cm\n" {
			want.At = strings.LastIndex(x.text, "emit cm")
		}
		if _, _, f := Parse(x.text); f != want {
			t.Errorf("Parse(%q): %v, not %v", x.text, f, want)
		}
		parses(t, x.text)
	}
	for n := 120; n < 135; n++ {
		parses(t, rows("let ", ":a", n)+rows("skip goto main:{aa}", "", n-2))
		parses(t, rows("mode ", "", n-110)+rows("skip goto aa:", "", n))
	}
}

// P18.1, P18.2, P18.3: all rows of up to three lines.
func TestRows(t *testing.T) {
	for _, a := range some {
		parses(t, a)
		for _, b := range some {
			parses(t, a+"\n"+b)
			for _, c := range some {
				parses(t, a+"\n"+b+"\n"+c)
			}
		}
	}
}

// P18.1, P18.2, P18.3: longer files, most of whose lines are right.
func TestLonger(t *testing.T) {
	r := rand.New(rand.NewSource(18))
	right := []string{
		"", "\t", "# x", "mode b", "mode c", "mode d", "mode main", "mode e", "let x : a", "let y : [b-d]", "let z : {x}*", "let w : {x}{y}+", "let v:",
		"emit A : a", "emit B : {x}b", "skip : {z}{y}", "skip goto b : x+", "emit C goto c : \"a:b\"", "emit D goto main : (a|b)c", " skip : (?i:{w}q)", "emit E goto e : [^a]",
	}
	good := 0
	for range 60000 {
		var l []string
		for range 1 + r.Intn(12) {
			if r.Intn(40) == 0 {
				l = append(l, some[r.Intn(len(some))])
			} else {
				l = append(l, right[r.Intn(len(right))])
			}
		}
		if parses(t, strings.Join(l, "\n")) {
			good++
		}
	}
	if good < 2000 {
		t.Errorf("only %d files were right", good)
	}
}

// P18.1, P18.2: files of which one byte is lacking, is another one, or is too many.
func TestChanged(t *testing.T) {
	text := " let d : [0-9]\n# x\n\nemit N goto m : {d}+ \nmode m\n\tskip goto main:a\n"
	for at := range len(text) + 1 {
		for c := range 256 {
			parses(t, text[:at]+string([]byte{byte(c)})+text[at:])
			if at < len(text) {
				parses(t, text[:at]+string([]byte{byte(c)})+text[at+1:])
			}
		}
		parses(t, text[:at])
		parses(t, text[at:])
		if at < len(text) {
			parses(t, text[:at]+text[at+1:])
		}
	}
}

// P18.2: texts of bytes of any kind.
func TestAnyBytes(t *testing.T) {
	r := rand.New(rand.NewSource(1))
	some := "mode let skip emit goto main x : a ( ) { } # \n \t \r \x00 \xff é 9 * \\ \" [ ]"
	for range 30000 {
		var b strings.Builder
		for range r.Intn(40) {
			b.WriteByte(some[r.Intn(len(some))])
			if r.Intn(3) == 0 {
				b.WriteString([]string{"mode ", "let x:", "skip:", "emit A:", "\n"}[r.Intn(5)])
			}
		}
		parses(t, b.String())
	}
}

// spoiled writes over all of a tree, and over the room behind its lists.
func spoiled(x api.Tree) {
	for i, l := range x.Sets {
		for j := range l {
			l[j] = api.Range{Lo: -7, Hi: -7}
		}
		_ = append(l, api.Range{Lo: -8, Hi: -8})
		x.Sets[i] = nil
	}
	_ = append(x.Sets, nil, nil)
	for i := range x.Nodes {
		x.Nodes[i] = api.Node{Op: -7}
	}
	_ = append(x.Nodes, api.Node{Op: -8})
}

// No two lists of an answer share memory, and none is used again by a later call.
func TestNothingIsShared(t *testing.T) {
	text := "let x : [ab]c\nlet y : {x}\nmode m\nskip : {x}\nemit A : {x}\nemit B : {y}{x}d"
	want, _, _ := Parse(text)
	s, d, _ := Parse(text)
	for i := range d {
		spoiled(d[i].Tree)
	}
	_ = append(d, api.Def{Name: "z"})
	if !reflect.DeepEqual(s, want) {
		t.Errorf("definitions share memory with rules: %v", s)
	}
	for i := range s.Rules {
		spoiled(s.Rules[i].Tree)
		s.Rules[i] = api.Rule{Mode: -7}
		if !reflect.DeepEqual(s.Rules[i+1:], want.Rules[i+1:]) {
			t.Errorf("rule %d shares memory with others", i)
		}
	}
	s.Modes[0] = "spoiled"
	again, l, f := Parse(text)
	if f != (api.Fault{}) || !reflect.DeepEqual(again, want) || len(l) != 2 || !reflect.DeepEqual(l[1].Tree, tree(t, "{x}", l[0])) {
		t.Errorf("a later call answers %v, %v, %v", again, l, f)
	}
}

// What is handed in is not kept.
func TestNothingIsKept(t *testing.T) {
	text := "let num : [0-9]\nemit NUM goto text : {num}+\nmode text\nskip goto main : \"ab\""
	want, defs, _ := Parse(text)
	b := []byte(text)
	s, d, f := Parse(unsafe.String(&b[0], len(b)))
	if string(b) != text {
		t.Errorf("changed: %q", b)
	}
	// A text whose bytes change may be had in a test alone; it shows whether a piece of it was kept.
	for i := range b {
		b[i] = 'z'
	}
	if f != (api.Fault{}) || !reflect.DeepEqual(s, want) || !reflect.DeepEqual(d, defs) || d[0].Name != "num" || s.Modes[1] != "text" || s.Rules[0].Act.Emit != "NUM" {
		t.Errorf("kept: %v, %v, %v", s, d, f)
	}
}

// The same is answered whatever was asked ahead.
func TestAgain(t *testing.T) {
	for range 3 {
		for _, text := range []string{"skip : a", "mode", "let x : a\nmode m\nskip : {x}", "skip : {x}", "", "mode a\nmode b\nemit A goto b : a"} {
			parses(t, text)
		}
	}
}

// Great files are read in good time.
func TestGreat(t *testing.T) {
	grown := "let a:a\n"
	for i := range 11 {
		grown += "let " + string([]byte{byte('b' + i)}) + ":{" + string([]byte{byte('a' + i)}) + "}{" + string([]byte{byte('a' + i)}) + "}\n"
	}
	for _, text := range []string{
		grown + strings.Repeat("skip:{k}{k}\n", 128), grown + strings.Repeat("skip:{k}{l}{a}\n", 128), strings.Repeat("skip:"+strings.Repeat("[a-z]", 98)+"\n", 128), strings.Repeat("skip:"+strings.Repeat("a", 505)+"\n", 128),
		grown + strings.Repeat("skip:({k}{255}{255})\n", 100), strings.Repeat("mode ", 13000), "let " + strings.Repeat("x ", 30000) + ":", strings.Repeat(":", 65536), "skip" + strings.Repeat(" ", 60000) + ":a", strings.Repeat("skip:(((((((a{255}){255}){255}){255}){255}){255}){255})\n", 128),
	} {
		parses(t, text)
	}
}

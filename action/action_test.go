package action

import (
	"math"
	"regexp"
	"slices"
	"strings"
	"testing"
	"unsafe"

	"spool/api"
)

// aName is what a name is, as a pattern.
var aName = regexp.MustCompile(`\A[a-zA-Z_][a-zA-Z0-9_]{0,31}\z`)

// aWord is what a word is, as a pattern.
var aWord = regexp.MustCompile(`[^\x20\x09]+`)

// long has a name of as many bytes as one may have.
const long = "abcdefghijklmnopqrstuvwxyz_01234"

// ends are numbers from the whole range, far from all modes' ones.
var ends = []int{math.MinInt, math.MinInt + 1, math.MinInt32, -1 << 16, -256, -128, -2, 255, 256, 1 << 16, math.MaxInt32, 1 << 32, math.MaxInt - 1, math.MaxInt}

// modeLists are lists of modes of all kinds: of names that are unlike, of some that stand there more than once, of texts that are no names.
func modeLists() [][]string {
	return [][]string{
		nil, {}, {"main"}, {"main", "text"}, {"text", "x", "main"}, {"skip", "emit", "goto"}, {"goto", "main", "skip", "text"}, {long, "main", "x"},
		{"main", "main"}, {"x", "main", "x", "text", "main", "x"}, {"", "main"}, {"9", "x", "9"}, {"main ", " main", "a b", "é", "main"}, {long + "5", "Main", "MAIN"},
	}
}

// unlike tells whether all modes are names, and unlike.
func unlike(modes []string) bool {
	for i, m := range modes {
		if !aName.MatchString(m) || slices.Contains(modes[:i], m) {
			return false
		}
	}
	return true
}

// numbers has each mode's number, its first place.
func numbers(modes []string) map[string]int {
	m := map[string]int{}
	for i := len(modes) - 1; i >= 0; i-- {
		m[modes[i]] = i
	}
	return m
}

// parsed is what Parse ought to tell, reckoned from the document's words.
func parsed(s string, modes []string) (api.Act, api.Fault) {
	var l []string
	var at []int
	for _, w := range aWord.FindAllStringIndex(s, -1) {
		l, at = append(l, s[w[0]:w[1]]), append(at, w[0])
	}
	// No word that is filled is lacking: these stand for those that are.
	for range 4 {
		l, at = append(l, ""), append(at, len(s))
	}
	wrong := func(e api.Errno, i int) (api.Act, api.Fault) { return api.Act{}, api.Fault{E: e, At: at[i]} }
	a := api.Act{Goto: -1}
	i := 1
	if l[0] == "emit" {
		if l[1] == "" {
			return wrong(api.ErrForm, 1)
		}
		if !aName.MatchString(l[1]) {
			return wrong(api.ErrName, 1)
		}
		a.Emit, i = l[1], 2
	} else if l[0] != "skip" {
		return wrong(api.ErrForm, 0)
	}
	if l[i] == "" {
		return a, api.Fault{}
	}
	if l[i] != "goto" {
		return wrong(api.ErrForm, i)
	}
	if l[i+1] == "" {
		return wrong(api.ErrForm, i+1)
	}
	if !aName.MatchString(l[i+1]) {
		return wrong(api.ErrName, i+1)
	}
	n, ok := numbers(modes)[l[i+1]]
	if !ok {
		return wrong(api.ErrMode, i+1)
	}
	a.Goto = n
	if l[i+2] != "" {
		return wrong(api.ErrForm, i+2)
	}
	return a, api.Fault{}
}

// parses fails where Parse doesn't tell what it ought to.
func parses(t *testing.T, s string, modes []string) {
	t.Helper()
	want, wrong := parsed(s, modes)
	if a, f := Parse(s, modes); a != want || f != wrong {
		t.Fatalf("Parse(%q, %q): %v, %v, not %v, %v", s, modes, a, f, want, wrong)
	}
}

// mayBe is what Right ought to tell.
func mayBe(a api.Act, modes []string) bool {
	if a.Emit != "" && !aName.MatchString(a.Emit) {
		return false
	}
	for _, n := range numbers(modes) {
		if a.Goto == n {
			return true
		}
	}
	return a.Goto == -1
}

// told is what Text ought to tell.
func told(a api.Act, modes []string) string {
	switch {
	case !mayBe(a, modes):
		return ""
	case a.Emit == "" && a.Goto == -1:
		return "skip"
	case a.Emit == "":
		return "skip goto " + modes[a.Goto]
	case a.Goto == -1:
		return "emit " + a.Emit
	}
	return "emit " + a.Emit + " goto " + modes[a.Goto]
}

// acts are actions of all kinds for some modes, of which some may not be.
func acts(modes []string) []api.Act {
	to := slices.Clone(ends)
	for n := -5; n < len(modes)+5; n++ {
		to = append(to, n)
	}
	var l []api.Act
	for _, n := range to {
		for _, e := range []string{
			"", "A", "z", "_", "NUM", "skip", "emit", "goto", "main", "a9_Z", long, long[:31],
			long + "5", "9", "9a", " ", "A ", " A", "A B", "A\tB", "A\n", "é", "aé", "a-b", "\xff", "a\x00", "emit A", ":", strings.Repeat("a", 5000),
		} {
			l = append(l, api.Act{Emit: e, Goto: n})
		}
	}
	return l
}

// P17.1: actions, by hand.
func TestParseByHand(t *testing.T) {
	modes := []string{"main", "text", "skip", "goto", "main", "a1", "emit", long}
	for s, want := range map[string]api.Act{
		"skip": {Goto: -1}, " skip": {Goto: -1}, "skip\t": {Goto: -1}, "\t  skip \t ": {Goto: -1},
		"emit A": {Emit: "A", Goto: -1}, " emit\tA ": {Emit: "A", Goto: -1}, "emit NUM": {Emit: "NUM", Goto: -1}, "emit _": {Emit: "_", Goto: -1}, "emit a9": {Emit: "a9", Goto: -1},
		"emit skip": {Emit: "skip", Goto: -1}, "emit emit": {Emit: "emit", Goto: -1}, "emit goto": {Emit: "goto", Goto: -1}, "emit main": {Emit: "main", Goto: -1},
		"emit " + long: {Emit: long, Goto: -1}, "emit " + long + " goto " + long: {Emit: long, Goto: 7},
		"skip goto main": {Goto: 0}, "skip goto text": {Goto: 1}, "skip goto skip": {Goto: 2}, "skip goto goto": {Goto: 3}, "skip goto a1": {Goto: 5}, "skip goto emit": {Goto: 6},
		"emit NUM goto text": {Emit: "NUM", Goto: 1}, "emit goto goto goto": {Emit: "goto", Goto: 3}, "emit emit goto main": {Emit: "emit", Goto: 0},
		"\t\temit \t x\t\tgoto  text\t": {Emit: "x", Goto: 1}, "emit main goto main": {Emit: "main", Goto: 0},
		strings.Repeat(" ", 5000) + "emit" + strings.Repeat("\t", 5000) + "A": {Emit: "A", Goto: -1}, "skip goto main" + strings.Repeat(" ", 70000): {Goto: 0},
	} {
		if a, f := Parse(s, modes); a != want || f != (api.Fault{}) {
			t.Errorf("Parse(%q): %v, %v", s, a, f)
		}
	}
}

// P17.1: what is wrong, by hand.
func TestFaultsByHand(t *testing.T) {
	modes := []string{"main", "text", "9", "a b", long + "5", "", "é"}
	for s, want := range map[string]api.Fault{
		// A word is lacking.
		"": {E: api.ErrForm}, " ": {E: api.ErrForm, At: 1}, "\t \t": {E: api.ErrForm, At: 3}, "emit": {E: api.ErrForm, At: 4}, "emit  \t": {E: api.ErrForm, At: 7}, " emit ": {E: api.ErrForm, At: 6},
		"skip goto": {E: api.ErrForm, At: 9}, "skip goto ": {E: api.ErrForm, At: 10}, "emit A goto": {E: api.ErrForm, At: 11}, "\temit A goto\t\t": {E: api.ErrForm, At: 14}, "emit goto goto": {E: api.ErrForm, At: 14},
		// Another one stands there.
		"drop": {E: api.ErrForm}, "  drop": {E: api.ErrForm, At: 2}, "goto": {E: api.ErrForm}, " goto main": {E: api.ErrForm, At: 1}, "main": {E: api.ErrForm}, "Skip": {E: api.ErrForm}, "SKIP": {E: api.ErrForm},
		"Emit A": {E: api.ErrForm}, "ski": {E: api.ErrForm}, "skipp": {E: api.ErrForm}, "emi A": {E: api.ErrForm}, "emitA": {E: api.ErrForm}, "skip\n": {E: api.ErrForm}, "\nskip": {E: api.ErrForm}, "skip\r": {E: api.ErrForm},
		"é": {E: api.ErrForm}, "\xff": {E: api.ErrForm}, "\x00": {E: api.ErrForm}, "9": {E: api.ErrForm}, "skip\u00a0goto main": {E: api.ErrForm}, ":": {E: api.ErrForm},
		"skip to main": {E: api.ErrForm, At: 5}, "skip skip": {E: api.ErrForm, At: 5}, "skip emit A": {E: api.ErrForm, At: 5}, "skip main": {E: api.ErrForm, At: 5}, "skip  Goto main": {E: api.ErrForm, At: 6},
		"skip 9": {E: api.ErrForm, At: 5}, "skip gotomain": {E: api.ErrForm, At: 5}, "skip goto\nmain": {E: api.ErrForm, At: 5}, "emit A B": {E: api.ErrForm, At: 7}, "emit A emit B": {E: api.ErrForm, At: 7},
		"emit A skip": {E: api.ErrForm, At: 7}, "emit goto main": {E: api.ErrForm, At: 10}, "emit A \t got main": {E: api.ErrForm, At: 9},
		// One stands behind all.
		"skip goto main x": {E: api.ErrForm, At: 15}, "skip goto main goto": {E: api.ErrForm, At: 15}, "skip goto main goto text": {E: api.ErrForm, At: 15}, "emit A goto text  9 ": {E: api.ErrForm, At: 18}, "skip goto main skip": {E: api.ErrForm, At: 15},
		// No names.
		"emit 9x": {E: api.ErrName, At: 5}, "emit  a-b": {E: api.ErrName, At: 6}, "emit é": {E: api.ErrName, At: 5}, "emit A\n": {E: api.ErrName, At: 5}, "emit \xff": {E: api.ErrName, At: 5}, "emit A:": {E: api.ErrName, At: 5},
		"emit 9 goto 9": {E: api.ErrName, At: 5}, "emit 9 drop": {E: api.ErrName, At: 5}, "emit " + long + "5": {E: api.ErrName, At: 5}, "emit 9 goto": {E: api.ErrName, At: 5},
		"skip goto 1": {E: api.ErrName, At: 10}, "skip goto 9": {E: api.ErrName, At: 10}, "skip goto é": {E: api.ErrName, At: 10}, "skip goto " + long + "5": {E: api.ErrName, At: 10}, "skip goto 9 x": {E: api.ErrName, At: 10},
		"emit A goto -1": {E: api.ErrName, At: 12}, "skip goto main,": {E: api.ErrName, At: 10},
		// No modes.
		"skip goto x": {E: api.ErrMode, At: 10}, "skip goto Main": {E: api.ErrMode, At: 10}, "skip goto mai": {E: api.ErrMode, At: 10}, "skip goto main_": {E: api.ErrMode, At: 10}, "skip goto x y": {E: api.ErrMode, At: 10},
		"emit A goto A": {E: api.ErrMode, At: 12}, "skip goto goto": {E: api.ErrMode, At: 10}, "skip goto a b": {E: api.ErrMode, At: 10}, "emit A goto  x goto": {E: api.ErrMode, At: 13}, "skip goto " + long: {E: api.ErrMode, At: 10},
	} {
		if a, f := Parse(s, modes); f != want || a != (api.Act{}) {
			t.Errorf("Parse(%q): %v, %v, not %v", s, a, f, want)
		}
	}
}

// P17.1: the first place of a mode is its number, wherever else it stands; without modes there is none.
func TestModesNumbers(t *testing.T) {
	for _, x := range []struct {
		modes []string
		want  int
	}{
		{nil, -1}, {[]string{}, -1}, {[]string{"x"}, 0}, {[]string{"x", "x"}, 0}, {[]string{"y", "x"}, 1}, {[]string{"y", "x", "x"}, 1}, {[]string{"y", "y", "x", "y", "x"}, 2},
		{[]string{"X", "xx", "", "x "}, -1}, {[]string{"", "x"}, 1}, {append(slices.Repeat([]string{"y"}, 70000), "x"), 70000}, {slices.Repeat([]string{"y"}, 70000), -1},
	} {
		want, wrong := api.Act{Emit: "A", Goto: x.want}, api.Fault{}
		if x.want == -1 {
			want, wrong = api.Act{}, api.Fault{E: api.ErrMode, At: 12}
		}
		if a, f := Parse("emit A goto x", x.modes); a != want || f != wrong {
			t.Errorf("Parse with %d modes: %v, %v, not %v, %v", len(x.modes), a, f, want, wrong)
		}
	}
}

// P17.1: all rows of up to five of some words, however far apart.
func TestRows(t *testing.T) {
	some := []string{"skip", "emit", "goto", "main", "x", "9", "é", "Skip", long + "5"}
	lists := [][]string{nil, {"main", "goto"}, {"x", "9", "main", "main"}}
	var all func(l []string, left int)
	all = func(l []string, left int) {
		for _, between := range []string{" ", "\t", " \t "} {
			s := strings.Join(l, between)
			for _, modes := range lists {
				parses(t, s, modes)
				parses(t, between+s+between, modes)
			}
		}
		for _, w := range some {
			if left > 0 {
				all(append(slices.Clone(l), w), left-1)
			}
		}
	}
	all(nil, 4)
	// Of five words only those that begin as an action does have more to tell.
	for _, l := range [][]string{{"skip", "goto", "main"}, {"emit", "x", "goto"}, {"emit", "goto", "goto"}, {"emit", "x", "goto", "main"}} {
		all(l, 3)
	}
}

// P17.1: actions of which one byte is lacking, is another one, or is too many.
func TestChanged(t *testing.T) {
	modes := []string{"main", "text", "x"}
	for _, s := range []string{"skip", "emit A", "skip goto text", " emit\tNUM  goto main ", "emit " + long, "emit " + long[:31] + " goto x", "drop", "skip to x", "emit A goto x y"} {
		for at := range len(s) + 1 {
			for c := range 256 {
				parses(t, s[:at]+string([]byte{byte(c)})+s[at:], modes)
				if at < len(s) {
					parses(t, s[:at]+string([]byte{byte(c)})+s[at+1:], modes)
				}
			}
			parses(t, s[:at], modes)
			parses(t, s[at:], modes)
			if at < len(s) {
				parses(t, s[:at]+s[at+1:], modes)
			}
		}
	}
}

// P17.1: names of each length.
func TestLengths(t *testing.T) {
	for n := range 100 {
		name := strings.Repeat("q", n)
		for _, modes := range [][]string{nil, {name}, {"main", name, name}} {
			parses(t, "emit "+name, modes)
			parses(t, "emit "+name+" goto main", modes)
			parses(t, "skip goto "+name, modes)
			parses(t, "emit "+name+" goto "+name, modes)
		}
	}
	for _, n := range []int{1 << 12, 1 << 16, 1 << 20} {
		parses(t, "emit "+strings.Repeat("q", n), nil)
		parses(t, strings.Repeat("skip ", n), nil)
		parses(t, strings.Repeat("goto ", n), nil)
		parses(t, "skip goto x "+strings.Repeat("\t ", n)+"x", []string{"x"})
	}
}

// P17.2: which actions may be, by hand.
func TestRightByHand(t *testing.T) {
	for _, x := range []struct {
		emit  string
		to    int
		modes []string
		want  bool
	}{
		{"", -1, nil, true}, {"", -1, []string{"m"}, true}, {"A", -1, nil, true}, {long, -1, nil, true}, {long + "5", -1, nil, false}, {"9", -1, nil, false}, {" ", -1, nil, false}, {"A ", -1, nil, false}, {"é", -1, nil, false},
		{"", 0, nil, false}, {"", 0, []string{}, false}, {"", 0, []string{"m"}, true}, {"A", 0, []string{"m"}, true}, {"9", 0, []string{"m"}, false}, {"", 1, []string{"m"}, false}, {"A", 1, []string{"m"}, false},
		{"", 1, []string{"m", "n"}, true}, {"A", 1, []string{"m", "n"}, true}, {"", 2, []string{"m", "n"}, false}, {"", -2, nil, false}, {"", -2, []string{"m", "n"}, false}, {"A", -2, []string{"m"}, false},
		{"", math.MinInt, []string{"m"}, false}, {"", math.MaxInt, []string{"m"}, false},
		// A mode that stands there more than once has one number.
		{"", 0, []string{"m", "m"}, true}, {"", 1, []string{"m", "m"}, false}, {"A", 2, []string{"m", "n", "m", "o"}, false}, {"A", 3, []string{"m", "n", "m", "o"}, true},
		// What no action's text could name is a mode all the same.
		{"", 0, []string{"9"}, true}, {"", 0, []string{""}, true},
	} {
		a := api.Act{Emit: x.emit, Goto: x.to}
		if is := Right(a, x.modes); is != x.want {
			t.Errorf("Right(%v, %q): %v", a, x.modes, is)
		}
		if s := Text(a, x.modes); (s != "") != x.want {
			t.Errorf("Text(%v, %q): %q", a, x.modes, s)
		}
	}
}

// P17.2: texts, by hand.
func TestTextByHand(t *testing.T) {
	modes := []string{"main", "text", long}
	for want, a := range map[string]api.Act{
		"skip": {Goto: -1}, "skip goto main": {}, "skip goto text": {Goto: 1}, "emit A": {Emit: "A", Goto: -1}, "emit NUM goto text": {Emit: "NUM", Goto: 1}, "emit A goto main": {Emit: "A"},
		"emit skip": {Emit: "skip", Goto: -1}, "emit goto goto main": {Emit: "goto"}, "emit " + long + " goto " + long: {Emit: long, Goto: 2},
	} {
		if s := Text(a, modes); s != want {
			t.Errorf("Text(%v): %q, not %q", a, s, want)
		}
	}
}

// P17.2: all kinds of actions, with all kinds of modes.
func TestRightAndText(t *testing.T) {
	for _, modes := range modeLists() {
		for _, a := range acts(modes) {
			if is := Right(a, modes); is != mayBe(a, modes) {
				t.Errorf("Right(%v, %q): %v", a, modes, is)
			}
			if s := Text(a, modes); s != told(a, modes) {
				t.Errorf("Text(%v, %q): %q, not %q", a, modes, s, told(a, modes))
			}
		}
	}
}

// P17.2: each byte in what is emitted.
func TestEmittedBytes(t *testing.T) {
	for c := range 256 {
		s := string([]byte{byte(c)})
		for _, e := range []string{s, s + "a", "a" + s, "a" + s + "b", long[:31] + s, long + s} {
			a := api.Act{Emit: e, Goto: -1}
			if is := Right(a, nil); is != aName.MatchString(e) {
				t.Errorf("Right of what emits %q: %v", e, is)
			}
			if s := Text(a, nil); s != told(a, nil) {
				t.Errorf("Text of what emits %q: %q", e, s)
			}
		}
	}
}

// P17.3: what is told is read as the same action.
func TestTextIsRead(t *testing.T) {
	many := make([]string, 300)
	for i := range many {
		many[i] = "m" + strings.Repeat("x", i%30) + string([]byte{byte('a' + i/30)})
	}
	for _, modes := range append(modeLists(), many) {
		if !unlike(modes) {
			continue
		}
		for _, a := range acts(modes) {
			if !Right(a, modes) {
				continue
			}
			if again, f := Parse(Text(a, modes), modes); again != a || f != (api.Fault{}) {
				t.Errorf("Parse of Text(%v, %q): %v, %v", a, modes, again, f)
			}
		}
	}
}

// P17.3: what was read may be, and is told with one blank between words.
func TestReadIsTold(t *testing.T) {
	modes := []string{"main", "text", "goto"}
	for _, s := range []string{"skip", "\tskip  ", "emit  A", "emit goto goto goto", " skip\tgoto\t\ttext", "emit NUM goto main "} {
		a, f := Parse(s, modes)
		if f != (api.Fault{}) || !Right(a, modes) {
			t.Errorf("Parse(%q): %v, %v", s, a, f)
		}
		if again := Text(a, modes); again != strings.Join(strings.Fields(s), " ") {
			t.Errorf("Text of Parse(%q): %q", s, again)
		}
	}
}

// What is handed in is not changed, nor the room behind it, and is not kept.
func TestNothingIsKept(t *testing.T) {
	room := []string{"main", "text", "x", "behind"}
	modes := room[:3]
	kept := slices.Clone(room)
	b := []byte("emit NUM goto text")
	s := unsafe.String(&b[0], len(b))
	a, f := Parse(s, modes)
	told, is := Text(a, modes), Right(a, modes)
	if !slices.Equal(room, kept) || string(b) != "emit NUM goto text" {
		t.Errorf("changed: %q, %q", room, b)
	}
	// A text whose bytes change may be had in a test alone; it shows whether a piece of it was kept.
	for i := range b {
		b[i] = 'z'
	}
	clear(room)
	if a != (api.Act{Emit: "NUM", Goto: 1}) || f != (api.Fault{}) || told != "emit NUM goto text" || !is {
		t.Errorf("kept: %v, %v, %q, %v", a, f, told, is)
	}
}

// The same is answered whatever was asked ahead.
func TestAgain(t *testing.T) {
	modes := []string{"main", "text"}
	for range 3 {
		for _, s := range []string{"emit A goto text", "skip", "emit 9", "skip goto x", ""} {
			parses(t, s, modes)
			parses(t, s, nil)
		}
	}
}

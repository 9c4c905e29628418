package place

import (
	"math"
	"slices"
	"strconv"
	"strings"
	"testing"

	"spool/api"
)

// ends are numbers from the whole range, far from all texts.
var ends = []int{math.MinInt, math.MinInt + 1, math.MinInt32, -1000, -2, -1, 100000, math.MaxInt32, math.MaxInt - 1, math.MaxInt}

// placesOf has the places of a text's bytes, and of its end, reckoned byte by byte.
func placesOf(text string) [][2]int {
	l := [][2]int{{1, 1}}
	for _, c := range []byte(text) {
		next := l[len(l)-1]
		next[1]++
		if c == 10 {
			next = [2]int{next[0] + 1, 1}
		}
		l = append(l, next)
	}
	return l
}

// shortTexts are all texts of up to so many bytes, each of them one of few.
func shortTexts(most int) []string {
	l := []string{""}
	for from := 0; most > 0; most-- {
		to := len(l)
		for _, s := range l[from:to] {
			l = append(l, s+"a", s+"\n", s+"\r")
		}
		from = to
	}
	return l
}

// texts are short ones, and some that are longer or of other bytes.
func texts() []string {
	return append(shortTexts(7),
		"ab\n\ncde\n", "emit A : a|b\nskip : [ ]\n", "é\n€\n😀", "\xff\n\xfe", "\x00\n\x00", "a\u0085b\u2028c\vd\fe",
		"\r\n\r\n", "a\n\rb\n", strings.Repeat("\n", 300), strings.Repeat("x", 300), strings.Repeat("ab\n", 100)+"c",
	)
}

// P3.1: some places by hand.
func TestOfByHand(t *testing.T) {
	for _, c := range []struct {
		text          string
		at, line, col int
	}{
		{"", 0, 1, 1}, {"", 1, 1, 1}, {"", -1, 1, 1}, {"\n", 0, 1, 1}, {"\n", 1, 2, 1}, {"\n", 2, 2, 1},
		{"ab\nc", 0, 1, 1}, {"ab\nc", 1, 1, 2}, {"ab\nc", 2, 1, 3}, {"ab\nc", 3, 2, 1}, {"ab\nc", 4, 2, 2}, {"ab\nc", 5, 2, 2},
		{"\n\na", 0, 1, 1}, {"\n\na", 1, 2, 1}, {"\n\na", 2, 3, 1}, {"\n\na", 3, 3, 2}, {"\n\na", -7, 1, 1},
		{"é\né", 1, 1, 2}, {"é\né", 2, 1, 3}, {"é\né", 4, 2, 2}, {"a\r\nb", 1, 1, 2}, {"a\r\nb", 2, 1, 3}, {"a\rb", 2, 1, 3},
	} {
		if line, col := Of(c.text, c.at); line != c.line || col != c.col {
			t.Errorf("Of(%q, %d): %d, %d", c.text, c.at, line, col)
		}
	}
}

// P3.1: Of each byte of each text, and beside it.
func TestOf(t *testing.T) {
	for _, s := range texts() {
		places := placesOf(s)
		for at := -3; at < len(s)+4; at++ {
			want := places[min(max(at, 0), len(s))]
			if line, col := Of(s, at); line != want[0] || col != want[1] {
				t.Fatalf("Of(%q, %d): %d, %d", s, at, line, col)
			}
		}
		for _, at := range ends {
			want := places[0]
			if at > 0 {
				want = places[len(s)]
			}
			if line, col := Of(s, at); line != want[0] || col != want[1] {
				t.Fatalf("Of(%q, %d): %d, %d", s, at, line, col)
			}
		}
	}
}

// P3.1: some bytes by hand, and what is no place.
func TestAtByHand(t *testing.T) {
	for _, c := range []struct {
		text          string
		line, col, at int
		ok            bool
	}{
		{"", 1, 1, 0, true}, {"", 1, 2, 0, false}, {"", 2, 1, 0, false}, {"", 0, 0, 0, false},
		{"ab", 1, 1, 0, true}, {"ab", 1, 3, 2, true}, {"ab", 1, 4, 0, false}, {"ab", 2, 1, 0, false},
		{"ab\n", 1, 3, 2, true}, {"ab\n", 1, 4, 0, false}, {"ab\n", 2, 1, 3, true}, {"ab\n", 2, 2, 0, false}, {"ab\n", 3, 1, 0, false},
		{"ab\nc", 2, 1, 3, true}, {"ab\nc", 2, 2, 4, true}, {"ab\nc", 2, 3, 0, false}, {"ab\nc", 2, 0, 0, false}, {"ab\nc", 0, 1, 0, false},
		{"\n\n", 1, 1, 0, true}, {"\n\n", 2, 1, 1, true}, {"\n\n", 3, 1, 2, true}, {"\n\n", 3, 2, 0, false}, {"\n\n", 2, -1, 0, false},
	} {
		if at, ok := At(c.text, c.line, c.col); at != c.at || ok != c.ok {
			t.Errorf("At(%q, %d, %d): %d, %v", c.text, c.line, c.col, at, ok)
		}
	}
}

// P3.1: At each place that a short text may have, and beside it.
func TestAt(t *testing.T) {
	numbers := append([]int{0, 1, 2, 3, 4, 5, 6, 7, 8, 9, 10}, ends...)
	for _, s := range shortTexts(6) {
		bytes := map[[2]int]int{}
		for at, p := range placesOf(s) {
			bytes[p] = at
		}
		for _, line := range numbers {
			for _, col := range numbers {
				want, is := bytes[[2]int{line, col}]
				if at, ok := At(s, line, col); at != want || ok != is {
					t.Fatalf("At(%q, %d, %d): %d, %v", s, line, col, at, ok)
				}
			}
		}
	}
}

// P3.2: some lines by hand.
func TestLinesByHand(t *testing.T) {
	for s, want := range map[string][][2]int{
		"":             {{0, 0}},
		"\n":           {{0, 0}, {1, 1}},
		"\n\n":         {{0, 0}, {1, 1}, {2, 2}},
		"ab":           {{0, 2}},
		"ab\n":         {{0, 2}, {3, 3}},
		"ab\nc":        {{0, 2}, {3, 4}},
		"\nab":         {{0, 0}, {1, 3}},
		"ab\n\ncde\n":  {{0, 2}, {3, 3}, {4, 7}, {8, 8}},
		"a\r\nb\rc":    {{0, 2}, {3, 6}},
		"é\n\u2028\v":  {{0, 2}, {3, 7}},
		"\xff\n\x00\n": {{0, 1}, {2, 3}, {4, 4}},
	} {
		if l := Lines(s); !slices.Equal(l, want) {
			t.Errorf("Lines(%q): %v", s, l)
		}
	}
}

// P3.2: the lines' bytes, and a line end between each two, are the text.
func TestLines(t *testing.T) {
	for _, s := range texts() {
		l := Lines(s)
		if len(l) != strings.Count(s, "\n")+1 || l[0][0] != 0 || l[len(l)-1][1] != len(s) {
			t.Fatalf("Lines(%q): %v", s, l)
		}
		for i, line := range l {
			if line[0] > line[1] || strings.Contains(s[line[0]:line[1]], "\n") {
				t.Fatalf("Lines(%q): %v", s, l)
			}
			if i > 0 && (line[0] != l[i-1][1]+1 || s[line[0]-1] != '\n') {
				t.Fatalf("Lines(%q): %v", s, l)
			}
		}
	}
}

// P3.2: what is told is the caller's own, and another time the same.
func TestLinesAreNew(t *testing.T) {
	text := "ab\n\ncde\n"
	first := Lines(text)
	kept := slices.Clone(first)
	for i := range first {
		first[i] = [2]int{-1, -1}
	}
	if again := Lines(text); !slices.Equal(again, kept) {
		t.Errorf("Lines(%q): %v, then %v", text, kept, again)
	}
}

// allWords are the errors' words, by the errors' names.
var allWords = map[api.Errno]string{
	api.OK: "ok", api.ErrArg: "argument", api.ErrRange: "range", api.ErrForm: "form", api.ErrName: "name",
	api.ErrTwice: "twice", api.ErrBig: "big", api.ErrDeep: "deep", api.ErrEmpty: "empty",
	api.ErrUnsupported: "unsupported", api.ErrNone: "none", api.ErrMode: "mode", api.ErrMark: "mark",
	api.ErrTrail: "trail", api.ErrFull: "full", api.ErrStarved: "starved", api.ErrClosed: "closed",
	api.ErrBusy: "busy", api.ErrState: "state",
}

// wordOf is what the document says of an error.
func wordOf(e api.Errno) string {
	if w, ok := allWords[e]; ok {
		return w
	}
	return "unknown"
}

// P3.3: the word of each error, and of what is none.
func TestWord(t *testing.T) {
	if len(allWords) != 19 {
		t.Errorf("errors: %d", len(allWords))
	}
	for e := api.Errno(-300); e < 300; e++ {
		if w := Word(e); w != wordOf(e) {
			t.Errorf("Word(%d): %q", e, w)
		}
	}
	for _, n := range append([]int{256, 1 << 32, 1<<32 + 1, 1<<63 - 1, -1 << 63}, ends...) {
		if w := Word(api.Errno(n)); w != "unknown" {
			t.Errorf("Word(%d): %q", n, w)
		}
	}
}

// P3.3: some faults by hand.
func TestTellByHand(t *testing.T) {
	for _, c := range []struct {
		text string
		f    api.Fault
		want string
	}{
		{"", api.Fault{}, "1:1: ok"},
		{"", api.Fault{E: api.ErrEmpty, At: 5}, "1:1: empty"},
		{"ab\nc", api.Fault{E: api.ErrForm, At: 3}, "2:1: form"},
		{"ab\nc", api.Fault{E: api.ErrArg, At: 4}, "2:2: argument"},
		{"ab\nc", api.Fault{E: api.ErrBig, At: math.MaxInt}, "2:2: big"},
		{"ab\nc", api.Fault{E: api.ErrName, At: math.MinInt}, "1:1: name"},
		{"ab\nc", api.Fault{E: 19, At: 2}, "1:3: unknown"},
		{"ab\nc", api.Fault{E: -1, At: -1}, "1:1: unknown"},
		{strings.Repeat("\n", 1234) + strings.Repeat("x", 6000), api.Fault{E: api.ErrState, At: 6789}, "1235:5556: state"},
	} {
		if s := Tell(c.text, c.f); s != c.want {
			t.Errorf("Tell(%q, %v): %q", c.text, c.f, s)
		}
	}
}

// P3.3: Tell of each error, and each byte.
func TestTell(t *testing.T) {
	text := "ab\n\ncde\n\xff"
	places := placesOf(text)
	for e := api.Errno(-2); e < 22; e++ {
		for at := -2; at < len(text)+3; at++ {
			p := places[min(max(at, 0), len(text))]
			want := strconv.Itoa(p[0]) + ":" + strconv.Itoa(p[1]) + ": " + wordOf(e)
			if s := Tell(text, api.Fault{E: e, At: at}); s != want {
				t.Errorf("Tell(%d, %d): %q", e, at, s)
			}
		}
	}
}

// P3.4: At of Of is the byte.
func TestAtOfOf(t *testing.T) {
	for _, s := range texts() {
		for at := range len(s) + 1 {
			line, col := Of(s, at)
			if n, ok := At(s, line, col); !ok || n != at {
				t.Fatalf("At of Of(%q, %d), %d, %d: %d, %v", s, at, line, col, n, ok)
			}
		}
	}
}

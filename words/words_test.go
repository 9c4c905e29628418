package words

import (
	"math"
	"slices"
	"strings"
	"testing"
)

// letters, digits and blanks are the bytes that the document names.
const (
	letters = "abcdefghijklmnopqrstuvwxyzABCDEFGHIJKLMNOPQRSTUVWXYZ_"
	digits  = "0123456789"
	blanks  = " \t"
)

// ends are numbers from the whole range, far from all texts.
var ends = []int{math.MinInt, math.MinInt + 1, math.MinInt32, -1000, -2, -1, 100000, math.MaxInt32, math.MaxInt - 1, math.MaxInt}

// shortTexts are all texts of up to so many bytes, each of them one of few.
func shortTexts(most int, few string) []string {
	l := []string{""}
	for from := 0; most > 0; most-- {
		to := len(l)
		for _, s := range l[from:to] {
			for i := range len(few) {
				l = append(l, s+few[i:i+1])
			}
		}
		from = to
	}
	return l
}

// lines are short texts with blanks, and some that are longer or of other bytes.
func lines() []string {
	return append(shortTexts(7, "a \t"),
		"emit NUM : {d}+", "  ab c", "\tgoto\ttext \t", "a\nb c", " \r x\v\f ", "\x00 \x01\t\xff", "é € 😀\u00a0x\u0085y\u2003z",
		"a\u3000b", strings.Repeat(" ", 300), strings.Repeat("x", 300), strings.Repeat("ab\t ", 100), strings.Repeat("\t", 50)+strings.Repeat("9", 5000)+" ",
	)
}

// wordsOf has the words of a text behind so many bytes, reckoned byte by byte.
func wordsOf(s string, at int) [][2]int {
	var l [][2]int
	for i := at; i < len(s); i++ {
		if strings.IndexByte(blanks, s[i]) >= 0 {
			continue
		}
		if len(l) > 0 && l[len(l)-1][1] == i {
			l[len(l)-1][1]++
		} else {
			l = append(l, [2]int{i, i + 1})
		}
	}
	return l
}

// P4.1: each byte.
func TestBlank(t *testing.T) {
	for i := range 256 {
		if c := byte(i); Blank(c) != (c == 32 || c == 9) {
			t.Errorf("Blank(%d): %v", c, Blank(c))
		}
	}
}

// P4.1: what is a name.
func TestNames(t *testing.T) {
	for _, s := range []string{
		"a", "z", "A", "Z", "_", "a0", "_9", "__", "NUM", "main", "x_1Y", "aZ09_", "goto", "skip", letters[:32], letters[21:],
		strings.Repeat("a", 31), strings.Repeat("a", 32), strings.Repeat("_", 32), "a" + strings.Repeat("0", 31),
	} {
		if !Name(s) {
			t.Errorf("Name(%q): false", s)
		}
	}
}

// P4.1: what is no name.
func TestNoNames(t *testing.T) {
	for _, s := range []string{
		"", "0", "9", "1a", "0_", " ", "a ", " a", "a b", "a\tb", "a\n", "\na", "a-b", "-", "a.b", "a:", "{a}", "$a", "a\x00", "\x00",
		"é", "aé", "éa", "\xff", "a\xff", "ａ", "a１", "ª", "a\u0301", "٣", "\u212a", "a\u017f",
		strings.Repeat("a", 33), strings.Repeat("_", 64), "a" + strings.Repeat("0", 32), strings.Repeat("a", 288), strings.Repeat("a", 5000),
	} {
		if Name(s) {
			t.Errorf("Name(%q): true", s)
		}
	}
}

// P4.1: each byte alone, first, in the middle, and as the last one that a name may have.
func TestNameBytes(t *testing.T) {
	long := strings.Repeat("b", 31)
	for i := range 256 {
		c := string([]byte{byte(i)})
		first := strings.Contains(letters, c)
		behind := first || strings.Contains(digits, c)
		for s, want := range map[string]bool{
			c: first, c + "x": first, c + "1": first, c + long: first, c + long + "b": false,
			"a" + c: behind, "_" + c + "1": behind, long + c: behind, long[:15] + c + long[:16]: behind, long + "b" + c: false,
		} {
			if Name(s) != want {
				t.Errorf("Name(%q): %v", s, Name(s))
			}
		}
	}
}

// P4.1: of each length, with letters alone and with digits.
func TestNameLengths(t *testing.T) {
	for n := range 300 {
		want := n >= 1 && n <= 32
		if s := strings.Repeat("q", n); Name(s) != want {
			t.Errorf("Name of %d letters: %v", n, Name(s))
		}
		if s := "_" + strings.Repeat("7", n); Name(s) != (n <= 31) {
			t.Errorf("Name of _ and %d digits: %v", n, Name(s))
		}
	}
}

// P4.1: what a text begins with, by hand.
func TestLeadByHand(t *testing.T) {
	for s, want := range map[string]int{
		"": 0, "a": 1, "_": 1, "1": 0, "1a": 0, "0_a": 0, "123": 0, " a": 0, "\ta": 0, "ab1 c": 3, "ab\tc": 2, "ab\nc": 2, "a:b": 1, "a}": 1,
		"_9x-": 3, "-a": 0, "é": 0, "aé": 1, "a9é": 2, "\xffa": 0, "a\xff": 1, "a\x00b": 1, "\x00": 0, "aZ09_": 5, "{d}": 0,
		letters + digits: 63, letters + digits + " x": 63, digits + letters: 0, letters + "-" + letters: 53,
		strings.Repeat("a", 32): 32, strings.Repeat("a", 33): 33, strings.Repeat("a", 5000): 5000, "b" + strings.Repeat("0", 4999) + ".": 5000,
	} {
		if n := Lead(s); n != want {
			t.Errorf("Lead(%q): %d", s, n)
		}
	}
}

// P4.1: each byte alone, first, and behind others.
func TestLeadBytes(t *testing.T) {
	for i := range 256 {
		c := string([]byte{byte(i)})
		first, behind := 0, 0
		if strings.Contains(letters, c) {
			first = 1
		}
		if first == 1 || strings.Contains(digits, c) {
			behind = 1
		}
		for s, want := range map[string]int{
			c: first, c + "x1": 3 * first, c + " ": first, c + "-": first, "a" + c: 1 + behind, "a" + c + "5b": 1 + 3*behind, "_0" + c + "\xff": 2 + behind,
		} {
			if n := Lead(s); n != want {
				t.Errorf("Lead(%q): %d, not %d", s, n, want)
			}
		}
	}
}

// P4.1: a text of up to 32 bytes is a name just where all of it is what it leads with, and is some.
func TestNameIsLead(t *testing.T) {
	for _, s := range shortTexts(5, "aZ_09- ") {
		if want := s != "" && Lead(s) == len(s); Name(s) != want {
			t.Errorf("Name(%q): %v, Lead %d", s, Name(s), Lead(s))
		}
	}
}

// P4.2: where some texts begin and end, by hand.
func TestTrimByHand(t *testing.T) {
	for s, want := range map[string][2]int{
		"": {0, 0}, " ": {1, 1}, "\t": {1, 1}, "  ": {2, 2}, " \t \t": {4, 4}, "a": {0, 1}, " a": {1, 2}, "a ": {0, 1}, " a ": {1, 2},
		" \tab c ": {2, 6}, "a  b": {0, 4}, "\ta\t": {1, 2}, "\na\n": {0, 3}, " \n ": {1, 2}, "\r ": {0, 1}, "\v\f": {0, 2},
		"\u00a0a\u00a0": {0, 5}, " \xff\t": {1, 2}, "\x00 ": {0, 1}, "\u0085 ": {0, 2}, " é ": {1, 3},
		strings.Repeat(" ", 5000): {5000, 5000}, strings.Repeat("\t", 3000) + "x" + strings.Repeat(" ", 3000): {3000, 3001},
	} {
		if from, to := Trim(s); from != want[0] || to != want[1] {
			t.Errorf("Trim(%q): %d, %d", s, from, to)
		}
	}
}

// P4.2: what Trim tells is the first word's begin, and the last one's end.
func TestTrim(t *testing.T) {
	for _, s := range lines() {
		want := [2]int{len(s), len(s)}
		if l := wordsOf(s, 0); len(l) > 0 {
			want = [2]int{l[0][0], l[len(l)-1][1]}
		}
		from, to := Trim(s)
		if from != want[0] || to != want[1] {
			t.Errorf("Trim(%q): %d, %d", s, from, to)
		}
		if s[from:to] != strings.Trim(s, blanks) {
			t.Errorf("Trim(%q): %q", s, s[from:to])
		}
	}
}

// P4.2: the next word, by hand.
func TestNextByHand(t *testing.T) {
	for _, c := range []struct {
		s        string
		at       int
		from, to int
	}{
		{"", 0, 0, 0}, {"", 1, 0, 0}, {"", -1, 0, 0}, {" ", 0, 1, 1}, {" \t", 1, 2, 2}, {" \t", -5, 2, 2}, {" \t", 9, 2, 2},
		{"  ab c", 0, 2, 4}, {"  ab c", -1, 2, 4}, {"  ab c", 2, 2, 4}, {"  ab c", 3, 3, 4}, {"  ab c", 4, 5, 6}, {"  ab c", 5, 5, 6}, {"  ab c", 6, 6, 6}, {"  ab c", 7, 6, 6},
		{"a  bc", 0, 0, 1}, {"a  bc", 1, 3, 5}, {"a  bc", 2, 3, 5}, {"a ", 1, 2, 2}, {"a ", 0, 0, 1}, {"\ta\nb\t", 0, 1, 4}, {"é x", 1, 1, 2}, {"é x", 2, 3, 4},
		{"ab", math.MinInt, 0, 2}, {"ab", math.MaxInt, 2, 2},
	} {
		if from, to := Next(c.s, c.at); from != c.from || to != c.to {
			t.Errorf("Next(%q, %d): %d, %d", c.s, c.at, from, to)
		}
	}
}

// P4.2: the next word of each byte of each text, and beside it.
func TestNext(t *testing.T) {
	for _, s := range lines() {
		numbers := slices.Clone(ends)
		for at := -3; at < len(s)+4; at++ {
			numbers = append(numbers, at)
		}
		for _, at := range numbers {
			want := [2]int{len(s), len(s)}
			if l := wordsOf(s, max(at, 0)); len(l) > 0 {
				want = l[0]
			}
			if from, to := Next(s, at); from != want[0] || to != want[1] {
				t.Fatalf("Next(%q, %d): %d, %d", s, at, from, to)
			}
		}
	}
}

// P4.2: all words, by hand.
func TestAllByHand(t *testing.T) {
	for s, want := range map[string][][2]int{
		"": nil, " ": nil, "\t \t": nil, "a": {{0, 1}}, "  ab c": {{2, 4}, {5, 6}}, " a bb\tc": {{1, 2}, {3, 5}, {6, 7}}, "a \t b ": {{0, 1}, {4, 5}},
		"a\nb c": {{0, 3}, {4, 5}}, "\r\v\f": {{0, 3}}, "é €": {{0, 2}, {3, 6}}, "a\u00a0b": {{0, 4}}, "\xff \x00": {{0, 1}, {2, 3}}, "#x : y": {{0, 2}, {3, 4}, {5, 6}},
	} {
		if l := All(s); !slices.Equal(l, want) {
			t.Errorf("All(%q): %v", s, l)
		}
	}
}

// P4.2: all words, and one behind the other by Next.
func TestAll(t *testing.T) {
	for _, s := range lines() {
		l := All(s)
		if !slices.Equal(l, wordsOf(s, 0)) {
			t.Errorf("All(%q): %v", s, l)
		}
		at := 0
		for _, w := range l {
			from, to := Next(s, at)
			if from != w[0] || to != w[1] {
				t.Fatalf("Next(%q, %d): %d, %d, not %v", s, at, from, to, w)
			}
			at = to
		}
		if from, to := Next(s, at); from != len(s) || to != len(s) {
			t.Fatalf("Next(%q, %d) behind all words: %d, %d", s, at, from, to)
		}
	}
}

// P4.2: each byte that is no blank is one of a word.
func TestWordBytes(t *testing.T) {
	for i := range 256 {
		s := "a" + string([]byte{byte(i)}) + "b"
		want := [][2]int{{0, 3}}
		if i == 32 || i == 9 {
			want = [][2]int{{0, 1}, {2, 3}}
		}
		if l := All(s); !slices.Equal(l, want) {
			t.Errorf("All(%q): %v", s, l)
		}
	}
}

// P4.3: words are not empty, apart, and have no blank; what is between them, and at the ends, is blanks alone.
func TestWordsAreApart(t *testing.T) {
	for _, s := range lines() {
		end := 0
		for i, w := range All(s) {
			if w[0] >= w[1] || w[1] > len(s) || strings.ContainsAny(s[w[0]:w[1]], blanks) {
				t.Fatalf("All(%q): %v", s, All(s))
			}
			if w[0] < end || i > 0 && w[0] == end || strings.Trim(s[end:w[0]], blanks) != "" {
				t.Fatalf("All(%q): %v", s, All(s))
			}
			end = w[1]
		}
		if strings.Trim(s[end:], blanks) != "" {
			t.Fatalf("All(%q): %v, with %q behind", s, All(s), s[end:])
		}
	}
}

// What is told is the caller's own, and another time the same.
func TestAllIsNew(t *testing.T) {
	text := "  ab c\td "
	first := All(text)
	kept := slices.Clone(first)
	for i := range first {
		first[i] = [2]int{-1, -1}
	}
	if again := All(text); !slices.Equal(again, kept) {
		t.Errorf("All(%q): %v, then %v", text, kept, again)
	}
}

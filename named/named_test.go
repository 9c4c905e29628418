package named

import (
	"math"
	"slices"
	"strings"
	"testing"

	"spool/api"
	"spool/ranges"
)

const top = api.MaxRune

// of are ranges, of two numbers each.
func of(n ...int) []api.Range {
	var l []api.Range
	for i := 0; i+1 < len(n); i += 2 {
		l = append(l, api.Range{Lo: n[i], Hi: n[i+1]})
	}
	return l
}

// sets are all names in their order, each with its set, which is written out.
var sets = []struct {
	name string
	set  []api.Range
}{
	{"Any", of(0, 1114111)},
	{"Ascii", of(0, 127)},
	{"Control", of(0, 31, 127, 159)},
	{"Digit", of('0', '9')},
	{"Hex", of('0', '9', 'A', 'F', 'a', 'f')},
	{"Upper", of('A', 'Z', 'À', 'Ö', 'Ø', 'Þ', 'Α', 'Ρ', 'Σ', 'Ϋ', 'Ѐ', 'Я')},
	{"Lower", of('a', 'z', 'ß', 'ö', 'ø', 'ÿ', 'α', 'ϋ', 'а', 'џ')},
	{"Alpha", of('A', 'Z', 'a', 'z', 'À', 'Ö', 'Ø', 'ö', 'ø', 'ÿ', 'Α', 'Ρ', 'Σ', 'Ϋ', 'α', 'ϋ', 'Ѐ', 'џ')},
	{"Alnum", of('0', '9', 'A', 'Z', 'a', 'z', 'À', 'Ö', 'Ø', 'ö', 'ø', 'ÿ', 'Α', 'Ρ', 'Σ', 'Ϋ', 'α', 'ϋ', 'Ѐ', 'џ')},
	{"Word", of('0', '9', 'A', 'Z', '_', '_', 'a', 'z', 'À', 'Ö', 'Ø', 'ö', 'ø', 'ÿ', 'Α', 'Ρ', 'Σ', 'Ϋ', 'α', 'ϋ', 'Ѐ', 'џ')},
	{"Space", of('\t', '\r', ' ', ' ', 0x85, 0x85, 0xa0, 0xa0, 0x2000, 0x200a, 0x2028, 0x2029, 0x202f, 0x202f, 0x205f, 0x205f, 0x3000, 0x3000)},
	{"Punct", of('!', '/', ':', '@', '[', '`', '{', '~')},
	{"Latin", of('A', 'Z', 'a', 'z', 'ª', 'ª', 'º', 'º', 'À', 'Ö', 'Ø', 'ö', 'ø', 0x24f)},
	{"Greek", of(0x370, 0x3ff)},
	{"Cyrillic", of(0x400, 0x4ff)},
	{"Han", of(0x3400, 0x4dbf, 0x4e00, 0x9fff)},
}

// shorts are the letters for short, each with the name it stands for, and whether for what is not in its set.
var shorts = map[byte]struct {
	name string
	not  bool
}{
	'd': {"Digit", false}, 'D': {"Digit", true}, 'w': {"Word", false}, 'W': {"Word", true},
	's': {"Space", false}, 'S': {"Space", true}, 'h': {"Hex", false}, 'H': {"Hex", true},
}

// setOf has the set of a name, as it is written out.
func setOf(name string) []api.Range {
	for _, s := range sets {
		if s.name == name {
			return s.set
		}
	}
	return nil
}

// isName tells whether a text is a name, as they are written out.
func isName(name string) bool { return len(setOf(name)) > 0 }

// in tells whether a number is in a set, held against each range.
func in(l []api.Range, c int) bool {
	return slices.ContainsFunc(l, func(r api.Range) bool { return r.Lo <= c && c <= r.Hi })
}

// same fails where two lists of ranges aren't the same ones.
func same(t *testing.T, what string, got, want []api.Range) {
	t.Helper()
	if !slices.Equal(got, want) {
		t.Fatalf("%s: %v, not %v", what, got, want)
	}
}

// P7.1: each name's set.
func TestOf(t *testing.T) {
	for _, s := range sets {
		l, ok := Of(s.name)
		if !ok {
			t.Errorf("Of(%s): false", s.name)
		}
		same(t, "Of "+s.name, l, s.set)
	}
}

// P7.1: all names, in order.
func TestNames(t *testing.T) {
	want := strings.Fields("Any Ascii Control Digit Hex Upper Lower Alpha Alnum Word Space Punct Latin Greek Cyrillic Han")
	if l := Names(); !slices.Equal(l, want) {
		t.Errorf("Names: %v", l)
	}
}

// nobody fails where a text that nobody has as a name is told a set.
func nobody(t *testing.T, name string) {
	t.Helper()
	if l, ok := Of(name); ok || len(l) != 0 {
		t.Errorf("Of(%q): %v, %v", name, l, ok)
	}
}

// P7.1: texts that are no names.
func TestOfNobody(t *testing.T) {
	for _, name := range []string{
		"", " ", "\x00", "_", "any", "ANY", "digit", "DIGIT", "Digits", "Digi", "igit", "Anyone", "Alphanum", "AlNum", "Alphabet", "White", "Symbol", "Letter", "Number", "Mark",
		"Blank", "Print", "Graph", "Xdigit", "Cntrl", "ASCII", "Unicode", "L", "Lu", "Nd", "Arabic", "Hebrew", "Hiragana", "Thai", "d", "w", "s", "h", "D", "W", "S", "H",
		"Upper Lower", "UpperLower", "Upper,Lower", "Any\x00", "Any\n", "\xffAny", "Аny", "Ηan", "Ａny", "^Any", "{Any}", "\\d", "0", "7", "Digit1", "-1",
		strings.Repeat("Any", 1000), strings.Repeat("x", api.MaxName), strings.Repeat("\xff", 4096),
	} {
		nobody(t, name)
	}
}

// P7.1: names of which a byte is another one, or is left out, or too many, are none but where they are written out.
func TestOfNear(t *testing.T) {
	for _, s := range sets {
		for i := range len(s.name) + 1 {
			near := []string{s.name[:i], s.name[i:], s.name[:i] + s.name}
			for c := range 256 {
				b := string([]byte{byte(c)})
				near = append(near, s.name[:i]+b+s.name[i:])
				if i < len(s.name) {
					near = append(near, s.name[:i]+b+s.name[i+1:], s.name[:i]+s.name[i+1:])
				}
			}
			for _, name := range near {
				if !isName(name) {
					nobody(t, name)
				}
			}
		}
	}
}

// P7.1: two names together are none.
func TestOfTwo(t *testing.T) {
	for _, a := range Names() {
		for _, b := range Names() {
			for _, between := range []string{"", " ", ",", "|", "\x00"} {
				nobody(t, a+between+b)
			}
		}
	}
}

// P7.2: all bytes.
func TestShort(t *testing.T) {
	for i := range 256 {
		c := byte(i)
		l, ok := Short(c)
		s, is := shorts[c]
		want := setOf(s.name)
		if s.not {
			want = ranges.Not(want)
		}
		if ok != is || !is && len(l) != 0 {
			t.Errorf("Short(%q): %v, %v", c, l, ok)
		}
		same(t, "Short "+string(rune(c)), l, want)
	}
}

// P7.2: by hand, the great ones and their small ones.
func TestShortByHand(t *testing.T) {
	for c, want := range map[byte][]api.Range{
		'd': of(48, 57), 'D': of(0, 47, 58, top), 'h': of(48, 57, 65, 70, 97, 102), 'H': of(0, 47, 58, 64, 71, 96, 103, top),
		's': of(9, 13, 32, 32, 133, 133, 160, 160, 8192, 8202, 8232, 8233, 8239, 8239, 8287, 8287, 12288, 12288),
		'S': of(0, 8, 14, 31, 33, 132, 134, 159, 161, 8191, 8203, 8231, 8234, 8238, 8240, 8286, 8288, 12287, 12289, top),
		'w': of(48, 57, 65, 90, 95, 95, 97, 122, 192, 214, 216, 246, 248, 255, 913, 929, 931, 939, 945, 971, 1024, 1119),
		'W': of(0, 47, 58, 64, 91, 94, 96, 96, 123, 191, 215, 215, 247, 247, 256, 912, 930, 930, 940, 944, 972, 1023, 1120, top),
	} {
		l, ok := Short(c)
		if !ok {
			t.Errorf("Short(%q): false", c)
		}
		same(t, "Short "+string(rune(c)), l, want)
	}
	for _, c := range []byte("dwsh") {
		small, _ := Short(c)
		great, _ := Short(c - 'a' + 'A')
		same(t, "both", ranges.Both(small, great), nil)
		same(t, "together", ranges.Union(small, great), of(0, top))
	}
}

// P7.2: by hand.
func TestOf2(t *testing.T) {
	for c, want := range map[int]string{
		95: "Any Ascii Word Punct", 0: "Any Ascii Control", 9: "Any Ascii Control Space", 32: "Any Ascii Space", 33: "Any Ascii Punct", 127: "Any Ascii Control", 128: "Any Control", 133: "Any Control Space", 160: "Any Space",
		'0': "Any Ascii Digit Hex Alnum Word", '9': "Any Ascii Digit Hex Alnum Word", 'A': "Any Ascii Hex Upper Alpha Alnum Word Latin", 'G': "Any Ascii Upper Alpha Alnum Word Latin", 'f': "Any Ascii Hex Lower Alpha Alnum Word Latin", 'z': "Any Ascii Lower Alpha Alnum Word Latin",
		170: "Any Latin", 215: "Any", 216: "Any Upper Alpha Alnum Word Latin", 247: "Any", 255: "Any Lower Alpha Alnum Word Latin", 256: "Any Latin", 591: "Any Latin", 592: "Any", 880: "Any Greek", 930: "Any Greek", 962: "Any Lower Alpha Alnum Word Greek", 1023: "Any Greek",
		1024: "Any Upper Alpha Alnum Word Cyrillic", 1119: "Any Lower Alpha Alnum Word Cyrillic", 1120: "Any Cyrillic", 1279: "Any Cyrillic", 1280: "Any", 12288: "Any Space", 13312: "Any Han", 19904: "Any", 40959: "Any Han", 40960: "Any", 0xd800: "Any", top: "Any",
	} {
		if l := Of2(c); !slices.Equal(l, strings.Fields(want)) {
			t.Errorf("Of2(%d): %v", c, l)
		}
	}
}

// P7.2: all numbers, and some beyond.
func TestOf2All(t *testing.T) {
	for c := -2000; c <= top+2000; c++ {
		got := Of2(c)
		for _, s := range sets {
			if !in(s.set, c) {
				continue
			}
			if len(got) == 0 || got[0] != s.name {
				t.Fatalf("Of2(%d): %v", c, Of2(c))
			}
			got = got[1:]
		}
		if len(got) > 0 {
			t.Fatalf("Of2(%d): %v", c, Of2(c))
		}
	}
}

// P7.2: numbers that are in no set, from the whole range.
func TestOf2None(t *testing.T) {
	for _, c := range []int{
		-1, -2, -65, -128, top + 1, top + 2, top + 66, 1<<21 + 65, 1<<32 + 48, 1<<32 + 95, -1<<32 + 97, 1<<40 + 32,
		math.MaxInt32, math.MinInt32, math.MaxInt - 1, math.MaxInt, math.MinInt, math.MinInt + 1, math.MinInt + 65,
	} {
		if l := Of2(c); len(l) != 0 {
			t.Errorf("Of2(%d): %v", c, l)
		}
	}
}

// P7.3: each name's numbers are a set, and not the empty one.
func TestRight(t *testing.T) {
	for _, name := range Names() {
		l, ok := Of(name)
		if !ok || len(l) == 0 || !ranges.Right(l) {
			t.Errorf("Of(%s): %v, %v", name, l, ok)
		}
		same(t, name, ranges.Of(l...), l)
	}
	for c := range shorts {
		if l, _ := Short(c); !ranges.Right(l) {
			t.Errorf("Short(%q): %v", c, l)
		}
	}
}

// P7.3: Alpha, Alnum and Word are what their parts are together.
func TestParts(t *testing.T) {
	told := func(name string) []api.Range {
		l, _ := Of(name)
		return l
	}
	same(t, "Alpha", told("Alpha"), ranges.Union(told("Upper"), told("Lower")))
	same(t, "Alnum", told("Alnum"), ranges.Union(told("Alpha"), told("Digit")))
	same(t, "Word", told("Word"), ranges.Union(told("Alnum"), of(95, 95)))
	for name, n := range map[string]int{"Upper": 26 + 30 + 26 + 48, "Lower": 26 + 32 + 27 + 48, "Alpha": 263, "Alnum": 273, "Word": 274} {
		if c := ranges.Count(told(name)); c != n {
			t.Errorf("%s: %d numbers, not %d", name, c, n)
		}
	}
}

// spoil writes over a list, its spare room too.
func spoil[T any](l []T, with T) {
	all := l[:cap(l)]
	for i := range all {
		all[i] = with
	}
}

// P7.1, P7.2: what is handed out is new memory, which nobody else sees.
func TestMemory(t *testing.T) {
	bad := api.Range{Lo: -7, Hi: -9}
	for _, s := range sets {
		kept, _ := Of(s.name)
		l, _ := Of(s.name)
		spoil(l, bad)
		same(t, "what was told of "+s.name, kept, s.set)
	}
	for c := range shorts {
		kept, _ := Short(c)
		was := slices.Clone(kept)
		l, _ := Short(c)
		spoil(l, bad)
		same(t, "what was told of a letter", kept, was)
	}
	kept, two := Names(), Of2(95)
	spoil(Names(), "x")
	spoil(Of2(95), "x")
	if !slices.Equal(kept, Names()) || !slices.Equal(two, Of2(95)) || slices.Contains(kept, "x") || slices.Contains(two, "x") {
		t.Errorf("what was told: %v, %v", kept, two)
	}
	TestOf(t)
	TestNames(t)
	TestShortByHand(t)
	TestOf2(t)
}

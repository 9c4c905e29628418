package bracket

import (
	"math"
	"regexp"
	"slices"
	"strings"
	"testing"
	"unicode/utf8"

	"spool/api"
	"spool/escape"
	"spool/fold"
	"spool/named"
	"spool/ranges"
)

const top = api.MaxRune

// of are ranges, of two numbers each.
func of(n ...int) []api.Range {
	var l []api.Range
	for i := 0; i+1 < len(n); i += 2 {
		l = append(l, api.Range{Lo: n[i], Hi: n[i+1]})
	}
	return l
}

// aheads and behinds are what may stand about a class.
var (
	aheads  = []string{"", "z", "[", "[a", "[^", "[a-", "\\", "\xff", "é[[:", "]"}
	behinds = []string{"", "z", "]", "]]", "-", "-z]", "[:", "[a]", "^", "\\", "\\d", "\xff", "\x80", "é", "\x00", "*"}
)

// goes fails where a class isn't told as a set, whatever stands about it, folded and not.
func goes(t *testing.T, s string, want []api.Range) {
	t.Helper()
	all := want
	if strings.HasPrefix(s, "[^") {
		all = ranges.Not(want)
	}
	both := fold.Set(all)
	if strings.HasPrefix(s, "[^") {
		both = ranges.Not(both)
	}
	for _, ahead := range aheads {
		for _, behind := range behinds {
			told(t, ahead+s+behind, len(ahead), false, want, len(ahead)+len(s))
			told(t, ahead+s+behind, len(ahead), true, both, len(ahead)+len(s))
		}
	}
}

// told fails where a text isn't told as a set up to a byte.
func told(t *testing.T, s string, at int, folded bool, want []api.Range, to int) {
	t.Helper()
	l, n, f := Parse(s, at, folded)
	if f != (api.Fault{}) || n != to || !slices.Equal(l, want) {
		t.Fatalf("Parse(%q, %d, %v): %v, %d, %v, not %v, %d", s, at, folded, l, n, f, want, to)
	}
}

// fails fails where a text isn't told as a fault alone, whatever stands ahead of it, folded or not.
func fails(t *testing.T, s string, e api.Errno, at int) {
	t.Helper()
	for _, ahead := range aheads {
		for _, folded := range []bool{false, true} {
			l, n, f := Parse(ahead+s, len(ahead), folded)
			if f != (api.Fault{E: e, At: len(ahead) + at}) || n != 0 || len(l) != 0 {
				t.Fatalf("Parse(%q, %d, %v): %v, %d, %v, not %d at %d", ahead+s, len(ahead), folded, l, n, f, e, len(ahead)+at)
			}
		}
	}
}

// stays fails where a text isn't told as a fault alone, whatever stands about it.
func stays(t *testing.T, s string, e api.Errno, at int) {
	t.Helper()
	for _, behind := range behinds {
		fails(t, s+behind, e, at)
	}
}

// P12.1: items of one number and of two.
func TestNumbers(t *testing.T) {
	for s, want := range map[string][]api.Range{
		`[a]`: of(97, 97), `[ab]`: of(97, 98), `[ba]`: of(97, 98), `[ac]`: of(97, 97, 99, 99), `[aa]`: of(97, 97), `[a-c]`: of(97, 99), `[a-a]`: of(97, 97), `[a-b]`: of(97, 98),
		`[a-cx]`: of(97, 99, 120, 120), `[xa-c]`: of(97, 99, 120, 120), `[a-cb-d]`: of(97, 100), `[a-cd-f]`: of(97, 102), `[a-ce-g]`: of(97, 99, 101, 103), `[0-9A-Fa-f]`: of(48, 57, 65, 70, 97, 102),
		`[é]`: of(233, 233), `[é-ü]`: of(233, 252), `[a-é]`: of(97, 233), "[\x00]": of(0, 0), "[\x00-\U0010ffff]": of(0, top), "[\n]": of(10, 10), "[ -~]": of(32, 126), "[\ud7ff-\ue000]": of(0xd7ff, 0xe000), "[\ufffd]": of(0xfffd, 0xfffd),
		`[|()*+?.$/"{}]`: of(34, 34, 36, 36, 40, 43, 46, 47, 63, 63, 123, 125), `[{name}]`: of(97, 97, 101, 101, 109, 110, 123, 123, 125, 125), `["a"]`: of(34, 34, 97, 97), `[.]`: of(46, 46), `[a|b]`: of(97, 98, 124, 124), `[(a)]`: of(40, 41, 97, 97),
	} {
		goes(t, s, want)
	}
}

// P12.1: where a `-` is a number, and where two numbers' item has it.
func TestDashes(t *testing.T) {
	for s, want := range map[string][]api.Range{
		`[-]`: of(45, 45), `[--]`: of(45, 45), `[---]`: of(45, 45), `[----]`: of(45, 45), `[-----]`: of(45, 45), `[-a]`: of(45, 45, 97, 97), `[-ab]`: of(45, 45, 97, 98), `[-a-c]`: of(45, 45, 97, 99), `[--a]`: of(45, 97), `[--/]`: of(45, 47), `[---a]`: of(45, 45, 97, 97),
		`[a-]`: of(45, 45, 97, 97), `[ab-]`: of(45, 45, 97, 98), `[a-c-]`: of(45, 45, 97, 99), `[a-c--]`: of(45, 45, 97, 99), `[-a-]`: of(45, 45, 97, 97), `[+--]`: of(43, 45), `[+---]`: of(43, 45), `[+--a]`: of(43, 45, 97, 97), `[+---a]`: of(43, 45, 97, 97), `[+----a]`: of(43, 97),
		`[a-c-e]`: of(45, 45, 97, 99, 101, 101), `[a-c-e-g]`: of(45, 45, 97, 99, 101, 103), `[a-c--/]`: of(45, 47, 97, 99), `[a-c---]`: of(45, 45, 97, 99), `[a-c-\d]`: of(45, 45, 48, 57, 97, 99), `[a-cx-z]`: of(97, 99, 120, 122),
		`[\d-a]`: of(45, 45, 48, 57, 97, 97), `[\d-]`: of(45, 45, 48, 57), `[\d--]`: of(45, 45, 48, 57), `[\d--/]`: of(45, 57), `[\d---+]`: of(43, 43, 45, 45, 48, 57), `[\d-\d]`: of(45, 45, 48, 57), `[\d-a-c]`: of(45, 45, 48, 57, 97, 99), `[\p{Digit}-a]`: of(45, 45, 48, 57, 97, 97), `[-\d]`: of(45, 45, 48, 57), `[-\d-]`: of(45, 45, 48, 57),
		`[a\-c]`: of(45, 45, 97, 97, 99, 99), `[+-\-]`: of(43, 45), `[\--/]`: of(45, 47), `[\--]`: of(45, 45), `[\-]`: of(45, 45), `[\-a]`: of(45, 45, 97, 97), `[\--\-]`: of(45, 45), `[a-c\--/]`: of(45, 47, 97, 99), `[\x2d-\x2f]`: of(45, 47), `[a\x2dc]`: of(45, 45, 97, 97, 99, 99),
	} {
		goes(t, s, want)
	}
	stays(t, `[a--]`, api.ErrRange, 1)
	stays(t, `[a---]`, api.ErrRange, 1)
	stays(t, `[a--b]`, api.ErrRange, 1)
	stays(t, `[\d--+]`, api.ErrRange, 3)
	stays(t, `[a-c--+]`, api.ErrRange, 4)
	stays(t, `[--+]`, api.ErrRange, 1)
}

// P12.1: `^`, which counts for something only as the first byte behind the `[`.
func TestNot(t *testing.T) {
	for s, want := range map[string][]api.Range{
		`[^a]`: of(0, 96, 98, top), `[^a-c]`: of(0, 96, 100, top), `[^^]`: of(0, 93, 95, top), `[^-]`: of(0, 44, 46, top), `[^-a]`: of(0, 44, 46, 96, 98, top), `[^--/]`: of(0, 44, 48, top), `[^^-a]`: of(0, 93, 98, top), `[^a-]`: of(0, 44, 46, 96, 98, top), `[^^a]`: of(0, 93, 95, 96, 98, top),
		`[^\d]`: of(0, 47, 58, top), `[^\D]`: of(48, 57), `[^\P{Any}]`: of(0, top), `[^\p{Any}]`: nil, `[^\d\D]`: nil, `[^\0-\u{10ffff}]`: nil, `[^\0-\u{10fffe}]`: of(top, top), `[^\u{1}-\u{10ffff}]`: of(0, 0), "[^\n]": of(0, 9, 11, top), `[^\P{Digit}]`: of(48, 57),
	} {
		goes(t, s, want)
	}
	for s, want := range map[string][]api.Range{
		`[a^]`: of(94, 94, 97, 97), `[\^a]`: of(94, 94, 97, 97), `[-^]`: of(45, 45, 94, 94), `[--^]`: of(45, 94), `[Z-^]`: of(90, 94), `[\^]`: of(94, 94), `[a-c^]`: of(94, 94, 97, 99), `[\d^]`: of(48, 57, 94, 94), `[\x5ea]`: of(94, 94, 97, 97), `[[^]`: of(91, 91, 94, 94),
	} {
		goes(t, s, want)
	}
}

// P12.1: `[` in a class, and what stands behind one.
func TestOpen(t *testing.T) {
	for s, want := range map[string][]api.Range{
		`[[]`: of(91, 91), `[[x]`: of(91, 91, 120, 120), `[[[]`: of(91, 91), `[^[]`: of(0, 90, 92, top), `[[a]`: of(91, 91, 97, 97), `[[-a]`: of(91, 97), `[[-]`: of(45, 45, 91, 91), `[[;]`: of(59, 59, 91, 91), `[[\:]`: of(58, 58, 91, 91), `[[[\.]`: of(46, 46, 91, 91), `[[/]`: of(47, 47, 91, 91), `[[<]`: of(60, 60, 91, 91), `[[>]`: of(62, 62, 91, 91), `[[\=]`: of(61, 61, 91, 91),
		`[:a]`: of(58, 58, 97, 97), `[:a:]`: of(58, 58, 97, 97), `[=a=]`: of(61, 61, 97, 97), `[.]`: of(46, 46), `[.a.]`: of(46, 46, 97, 97), `[^:a:]`: of(0, 57, 59, 96, 98, top), `[a:b]`: of(58, 58, 97, 98),
		`[\[:a]`: of(58, 58, 91, 91, 97, 97), `[\[=a]`: of(61, 61, 91, 91, 97, 97), `[\[.]`: of(46, 46, 91, 91), `[\x5b:a]`: of(58, 58, 91, 91, 97, 97), `[A-[:]`: of(58, 58, 65, 91), `[A-[=]`: of(61, 61, 65, 91), `[!-[.]`: of(33, 91), `[[-[:]`: of(58, 58, 91, 91), `[--[:]`: of(45, 91), `[:[]`: of(58, 58, 91, 91), `[[-[.-/]`: of(46, 47, 91, 91),
	} {
		goes(t, s, want)
	}
	for _, c := range []string{":", "=", "."} {
		for _, word := range []string{"", "alpha", "alpha" + c + "]", "a" + c + "]]", "]", "-", "\xff", `\d`} {
			stays(t, "[["+c+word, api.ErrUnsupported, 1)
			stays(t, "[^["+c+word, api.ErrUnsupported, 2)
			stays(t, "[x["+c+word, api.ErrUnsupported, 2)
			stays(t, "[[["+c+word, api.ErrUnsupported, 2)
			stays(t, "[é["+c+word, api.ErrUnsupported, 3)
			stays(t, "[a-c["+c+word, api.ErrUnsupported, 4)
			stays(t, "[a-c-["+c+word, api.ErrUnsupported, 5)
			stays(t, `[\d[`+c+word, api.ErrUnsupported, 3)
			stays(t, `[\d-[`+c+word, api.ErrUnsupported, 4)
			stays(t, "[+--["+c+word, api.ErrUnsupported, 4)
			stays(t, "[a-["+c+word, api.ErrRange, 1)
		}
	}
}

// P12.1: escapes, of one number and of a set.
func TestEscapes(t *testing.T) {
	for s, want := range map[string][]api.Range{
		`[\]]`: of(93, 93), `[\\]`: of(92, 92), `[a\]b]`: of(93, 93, 97, 98), `[\\-\]]`: of(92, 93), `[A-\]]`: of(65, 93), `[\]-a]`: of(93, 97), `[\x5d]`: of(93, 93), `[\x41-\x43]`: of(65, 67), `[\x41-C]`: of(65, 67), `[A-\x43]`: of(65, 67), `[\0]`: of(0, 0), `[\0-\x1f]`: of(0, 31), `[\t\n\v\f\r]`: of(9, 13), `[\a-\r]`: of(7, 13), `[\e]`: of(27, 27),
		`[\u{0}-\u{10ffff}]`: of(0, top), `[\u{d800}-\u{dfff}]`: of(0xd800, 0xdfff), `[\u{d800}]`: of(0xd800, 0xd800), `[\u{41}-\u{41}]`: of(65, 65), `[\é]`: of(233, 233), `[\.\*\+]`: of(42, 43, 46, 46), `[\"]`: of(34, 34), `[\[\]]`: of(91, 91, 93, 93), `[\u{10ffff}-\u{10ffff}]`: of(top, top),
		`[\d]`: of(48, 57), `[\D]`: of(0, 47, 58, top), `[a-c\d_]`: of(48, 57, 95, 95, 97, 99), `[\da-c]`: of(48, 57, 97, 99), `[\dd]`: of(48, 57, 100, 100), `[\d\D]`: of(0, top), `[\h]`: of(48, 57, 65, 70, 97, 102), `[\d-\h]`: of(45, 45, 48, 57, 65, 70, 97, 102), `[\d\h]`: of(48, 57, 65, 70, 97, 102),
		`[\p{Digit}]`: of(48, 57), `[\P{Digit}]`: of(0, 47, 58, top), `[\p{Any}]`: of(0, top), `[\P{Any}]`: nil, `[\P{Any}a]`: of(97, 97), `[\P{Any}\P{Any}]`: nil, `[a\P{Any}]`: of(97, 97), `[\P{Any}-a]`: of(45, 45, 97, 97), `[\P{Any}-]`: of(45, 45), `[\p{Ascii}é]`: of(0, 127, 233, 233), `[\p{Hex}x]`: of(48, 57, 65, 70, 97, 102, 120, 120),
	} {
		goes(t, s, want)
	}
	for _, name := range named.Names() {
		set, _ := named.Of(name)
		goes(t, `[\p{`+name+`}]`, set)
		goes(t, `[\P{`+name+`}]`, ranges.Not(set))
		goes(t, `[^\p{`+name+`}]`, ranges.Not(set))
		goes(t, `[\p{`+name+`}-\u{10ffff}]`, ranges.Union(set, of(45, 45, top, top)))
		fails(t, `[a-\p{`+name+`}]`, api.ErrForm, 3)
		fails(t, `[a-\P{`+name+`}]`, api.ErrForm, 3)
	}
	for _, c := range []byte("dwshDWSH") {
		set, _ := named.Short(c)
		goes(t, `[\`+string(rune(c))+`]`, set)
		fails(t, `[a-\`+string(rune(c))+`]`, api.ErrForm, 3)
	}
}

// P12.1: each code point but two, and the bytes that need an escape, alone and as both numbers of an item.
func TestEachCodePoint(t *testing.T) {
	for c := range top + 1 {
		if c >= 0xd800 && c <= 0xdfff || c == ']' || c == '\\' || c == '^' {
			continue
		}
		s := "[" + string(rune(c)) + "-" + string(rune(c)) + string(rune(c)) + "]z"
		told(t, s, 0, false, of(c, c), len(s)-1)
		s = "[" + string(rune(c)) + "]" + string(rune(c))
		told(t, s, 0, false, of(c, c), 2+utf8.RuneLen(rune(c)))
	}
}

// P12.1: what is folded: all items together, ahead of the `^`.
func TestFolded(t *testing.T) {
	for s, want := range map[string][]api.Range{
		`[a]`: of(65, 65, 97, 97), `[A]`: of(65, 65, 97, 97), `[a-c]`: of(65, 67, 97, 99), `[^a]`: of(0, 64, 66, 96, 98, top), `[^A-C]`: of(0, 64, 68, 96, 100, top), `[^b]`: of(0, 65, 67, 97, 99, top), `[aA]`: of(65, 65, 97, 97), `[1]`: of(49, 49), `[Z-a]`: of(65, 65, 90, 97, 122, 122), `[\x41]`: of(65, 65, 97, 97), `[\h]`: of(48, 57, 65, 70, 97, 102),
		`[é]`: of(201, 201, 233, 233), `[Ѐ]`: of(1024, 1024, 1104, 1104), `[\p{Ascii}]`: of(0, 127), `[^\p{Ascii}]`: of(128, top), `[^\P{Ascii}]`: of(0, 127), `[^\D]`: of(48, 57), `[ß]`: of(223, 223), `[×]`: of(215, 215), `[\u{c0}-\u{de}]`: of(192, 222, 224, 246, 248, 254), `[^\P{Any}]`: of(0, top), `[^\0-\u{10ffff}]`: nil,
	} {
		told(t, s+"z", 0, true, want, len(s))
	}
	// Numbers are held against each other as they are written.
	fails(t, `[a-C]`, api.ErrRange, 1)
	fails(t, `[a-Z]`, api.ErrRange, 1)
}

// P12.1: what is wrong with items, and where.
func TestWrong(t *testing.T) {
	for s, at := range map[string]int{
		`[]`: 1, `[]a]`: 1, `[^]`: 2, `[^]a]`: 2, `[]-a]`: 1, `[]]`: 1, `[]\xff`: 1,
		"[\xff": 1, "[a\xff": 2, "[^\xff": 2, "[a-\xff": 3, "[a-c\xff": 4, "[\\d\xff": 3, "[-\xff": 2, "[a-c-\xff": 5, "[é\x80": 3, "[\xc0\x80": 1, "[\xed\xa0\x80": 1, "[\xf4\x90\x80\x80": 1, "[\xe2\x82]": 1, "[\xc3]": 1, "[a-\xc3]": 3, "[[\xff": 2, "[--\xff": 3, "[\xe2\x82\xff": 1, "[-a\xff": 3,
		`[a-\d]`: 3, `[a-\d`: 3, `[^a-\d`: 4, `[é-\w`: 4, `[\x41-\D`: 6, `[--\s`: 3, `[\d--\d`: 5, `[a-c--\d`: 6, `[a-ce-\d`: 6, `[[-\d`: 3, `[^-\d-\d--\d`: 10, `[a-\p{Digit}`: 3, `[a-\P{Any}`: 3, `[\--\P{Any}`: 4, `[b-\da-b`: 3,
	} {
		stays(t, s, api.ErrForm, at)
	}
	for s, at := range map[string]int{
		`[z-a]`: 1, `[z-a`: 1, `[^z-a`: 2, `[az-a`: 2, `[é-a`: 1, `[éz-a`: 3, `[z-\x41`: 1, `[\x42-A`: 1, `[\x42-\x41`: 1, `[a\x42-\x41`: 2, `[a-cz-a`: 4, `[\dz-a`: 3, `[\d-z-a`: 4, `[b-a`: 1, `[\u{1}-\0`: 1, `[\u{10ffff}-\u{10fffe}`: 1, `[ü-é`: 1, "[\U0001f600-\uffff": 1, `[a-[`: 1, `[a-\]`: 1, `[a-^`: 1, `[a-c-e-d`: 5, `[z-a\b`: 1, "[z-a\xff": 1, `[z-a[:`: 1, `[z-ay-a`: 1,
	} {
		stays(t, s, api.ErrRange, at)
	}
}

// P12.1: escapes that are wrong, each with its own error, at it.
func TestWrongEscapes(t *testing.T) {
	for s, e := range map[string]api.Errno{
		`\b`: api.ErrUnsupported, `\1`: api.ErrUnsupported, `\X41`: api.ErrUnsupported, `\Q`: api.ErrUnsupported, `\q`: api.ErrForm, `\xg1`: api.ErrForm, `\u41`: api.ErrForm, `\u{}`: api.ErrForm, `\u{g}`: api.ErrForm, `\u{1234567}`: api.ErrForm, "\\\xff": api.ErrForm, `\u{110000}`: api.ErrRange, `\u{ffffff}`: api.ErrRange, `\p{Nobody}`: api.ErrName, `\P{Nobody}`: api.ErrName, `\p{}`: api.ErrName, `\pD`: api.ErrForm, `\P^`: api.ErrForm,
	} {
		for _, ahead := range []string{`[`, `[^`, `[a`, `[é`, `[-`, `[^-`, `[a-c`, `[a-c-`, `[\d`, `[\d-`, `[\]`, `[[`, `[a-`, `[é-`, `[^a-`, `[--`, `[a-cz-`, `[\d--`, `[a-c--`, `[\x41-`, `[^-\d-\d--`} {
			stays(t, ahead+s, e, len(ahead))
		}
		for _, ahead := range []string{`[]`, `[^]`} {
			stays(t, ahead+s, api.ErrForm, len(ahead)-1)
		}
		for _, ahead := range []string{`[z-a`, `[z-aa-`} {
			stays(t, ahead+s, api.ErrRange, 1)
		}
		stays(t, `[a[.`+s, api.ErrUnsupported, 2)
		stays(t, `[a-\d`+s, api.ErrForm, 3)
	}
}

// P12.1: the text ends in the class, which is told at its `[`; or in an escape, which is told there.
func TestEnds(t *testing.T) {
	for _, s := range []string{`[`, `[^`, `[a`, `[^a`, `[ab`, `[a-`, `[a-c`, `[a-c-`, `[a-c--`, `[-`, `[--`, `[---`, `[^-`, `[^^`, `[^--`, `[\d`, `[\d-`, `[\d--`, `[\d-a`, `[[`, `[[-`, `[^[`, `[[[`, `[é`, `[é-`, `[\]`, `[\[`, `[\\`, `[\x41`, `[\x41-`, `[:`, `[=`, `[.`, `[A-[`, `[+--`, "[\x00"} {
		fails(t, s, api.ErrForm, 0)
	}
	for s, at := range map[string]int{`[\`: 1, `[a\`: 2, `[^\`: 2, `[a-\`: 3, `[\\\`: 3, `[\x`: 1, `[\x4`: 1, `[\u`: 1, `[a\u{`: 2, `[a\u{41`: 2, `[é\p{`: 3, `[é\p{Digit`: 3, `[a-\P{Digit`: 3, "[a\xc3": 2, "[\xf0\x9f\x98": 1} {
		fails(t, s, api.ErrForm, at)
	}
}

// P12.1: where no `[` is.
func TestNoClass(t *testing.T) {
	for _, s := range []string{"", "a", "]", "^a]", "\\[", "a[b]c", "é[é]", "[a][b]", "\xff", "{[", "\x5a\x5c", "[[x]"} {
		for at := -3; at <= len(s)+3; at++ {
			if at < 0 || at >= len(s) || s[at] != '[' {
				noClass(t, s, at)
			}
		}
		for _, at := range []int{math.MinInt, math.MinInt + 1, math.MinInt32, -1 << 32, 1 << 32, math.MaxInt32, math.MaxInt - 1, math.MaxInt} {
			noClass(t, s, at)
		}
	}
}

// noClass fails where a text without a class at a byte isn't told so.
func noClass(t *testing.T, s string, at int) {
	t.Helper()
	for _, folded := range []bool{false, true} {
		if l, n, f := Parse(s, at, folded); f != (api.Fault{E: api.ErrArg, At: at}) || n != 0 || len(l) != 0 {
			t.Errorf("Parse(%q, %d, %v): %v, %d, %v", s, at, folded, l, n, f)
		}
	}
}

// sign is a part of a class: its kind as a letter (n a number, - that one, s a set, ] and ^ those, f a `[` behind which a name begins, x what is wrong), where it is, what it is of, and what is wrong with it.
type sign struct {
	kind byte
	at   int
	set  []api.Range
	e    api.Errno
}

// signs are a text's parts, from a byte on, up to one that is wrong, and their kinds in a row.
func signs(s string, at int) ([]sign, string) {
	var l []sign
	kinds := ""
	for kinds == "" || !strings.HasSuffix(kinds, "x") {
		g := sign{kind: 'n', at: at}
		r, size := utf8.DecodeRuneInString(s[at:])
		g.set = of(int(r), int(r))
		switch {
		case size == 0:
			g = sign{kind: 'x', e: api.ErrForm}
		case r == utf8.RuneError && size == 1:
			g = sign{kind: 'x', at: at, e: api.ErrForm}
		case r == ']' || r == '-' || r == '^':
			g.kind = byte(r)
		case r == '[' && len(s) > at+1 && strings.IndexByte(":=.", s[at+1]) >= 0:
			g.kind = 'f'
		case r == '\\':
			var to int
			g.set, to, g.e = escape.Parse(s, at)
			size = to - at
			if g.e != api.OK {
				g.kind = 'x'
			} else if strings.IndexByte("dwshDWSHpP", s[at+1]) >= 0 {
				g.kind = 's'
			}
		}
		l = append(l, g)
		kinds += string([]byte{g.kind})
		at += size
	}
	return l, kinds
}

// The patterns tell what a row of signs begins with; the first one that finds something counts.
var (
	oneNumber = regexp.MustCompile(`^[n^-]([^-]|-\])`)
	oneSet    = regexp.MustCompile(`^s`)
	twoOfThem = regexp.MustCompile(`^[n^-]-[nf^-]`)
	badSecond = regexp.MustCompile(`^[n^-]-[sx]`)
)

// wrong is the fault of a sign where it may not be.
func wrong(g sign) api.Fault {
	if g.e == api.OK {
		g.e = api.ErrForm
	}
	return api.Fault{E: g.e, At: g.at}
}

// reckon tells what Parse ought to tell of a text that begins with `[`, by patterns.
func reckon(s string, folded bool) ([]api.Range, int, api.Fault) {
	row, kinds := signs(s, 1)
	not := kinds[0] == '^'
	if not {
		row, kinds = row[1:], kinds[1:]
	}
	var all []api.Range
	for first := true; first || kinds[0] != ']'; first = false {
		n := 1
		switch {
		case oneNumber.MatchString(kinds), oneSet.MatchString(kinds):
			all = append(all, row[0].set...)
		case twoOfThem.MatchString(kinds):
			n = 3
			lo, hi := row[0].set[0].Lo, row[2].set[0].Lo
			if hi < lo {
				return nil, 0, api.Fault{E: api.ErrRange, At: row[0].at}
			}
			all = append(all, of(lo, hi)...)
		case badSecond.MatchString(kinds):
			return nil, 0, wrong(row[2])
		case kinds[0] == 'f':
			return nil, 0, api.Fault{E: api.ErrUnsupported, At: row[0].at}
		default:
			return nil, 0, wrong(row[0])
		}
		row, kinds = row[n:], kinds[n:]
	}
	set := ranges.Of(all...)
	if folded {
		set = fold.Set(set)
	}
	if not {
		set = ranges.Not(set)
	}
	return set, row[0].at + 1, api.Fault{}
}

// P12.1: all texts of some bytes, against what is reckoned by patterns.
func TestAllTexts(t *testing.T) {
	for _, w := range []struct {
		parts string
		long  int
	}{
		{`a - ] ^ \d`, 7}, {`+ - ] a \] \x2d`, 6}, {`[ : ] - a = .`, 6}, {"- a Z ] \xff é", 6}, {`- \d \b \ ] u {`, 6}, {"\\ d - ] ^ [ : a", 6}, {"\xc3 \xa9 ] - \\", 6}, {`^ - _ ] \D \P{Any}`, 6},
	} {
		parts := strings.Split(w.parts, " ")
		var texts func(s string, long int)
		texts = func(s string, long int) {
			for _, folded := range []bool{false, true} {
				want, to, fault := reckon(s, folded)
				if l, n, f := Parse(s, 0, folded); f != fault || n != to || !slices.Equal(l, want) {
					t.Fatalf("Parse(%q, 0, %v): %v, %d, %v, not %v, %d, %v", s, folded, l, n, f, want, to, fault)
				}
			}
			if long == w.long {
				return
			}
			for _, p := range parts {
				texts(s+p, long+1)
			}
		}
		texts("[", 0)
	}
}

// P12.1: what is told is a set; a class of many items is read as others are.
func TestLong(t *testing.T) {
	for s, want := range map[string][]api.Range{
		`a`: of(97, 97), `a-c`: of(97, 99), `\d`: of(48, 57), `-`: of(45, 45), `x-za-c`: of(97, 99, 120, 122), `\P{Any}`: nil, `\p{Any}`: of(0, top), `é\W`: ranges.Union(of(233, 233), ranges.Not(word())),
	} {
		s = "[" + strings.Repeat(s, 500) + "]"
		told(t, s, 0, false, want, len(s))
		fails(t, s[:len(s)-1], api.ErrForm, 0)
		fails(t, s[:len(s)-1]+`\b]`, api.ErrUnsupported, len(s)-1)
	}
	// Rising and falling numbers, between each two of which one lacks.
	up, down := "", ""
	var want []api.Range
	for c := 0; c < 40000; c += 2 {
		up += escape.Text(c)
		want = append(want, api.Range{Lo: c, Hi: c})
	}
	for i := len(want) - 1; i >= 0; i-- {
		down += escape.Text(want[i].Lo)
	}
	for _, s := range []string{up, down, up + down} {
		told(t, "["+s+"]", 0, false, want, len(s)+2)
		told(t, "[^"+s+"]", 0, false, ranges.Not(want), len(s)+3)
	}
}

// word is the set of a name.
func word() []api.Range {
	set, _ := named.Of("Word")
	return set
}

// P12.2: by hand.
func TestText(t *testing.T) {
	for _, w := range []struct {
		l    []api.Range
		want string
	}{
		{nil, `[^\u{0}-\u{10ffff}]`}, {of(), `[^\u{0}-\u{10ffff}]`}, {of(66, 65), `[^\u{0}-\u{10ffff}]`}, {of(-5, -1), `[^\u{0}-\u{10ffff}]`}, {of(top+1, math.MaxInt), `[^\u{0}-\u{10ffff}]`}, {of(math.MaxInt, math.MinInt), `[^\u{0}-\u{10ffff}]`}, {of(9, 1, -3, -2), `[^\u{0}-\u{10ffff}]`},
		{of(65, 65), `[\u{41}]`}, {of(65, 66), `[\u{41}-\u{42}]`}, {of(65, 67), `[\u{41}-\u{43}]`}, {of(65, 66, 68, 68), `[\u{41}-\u{42}\u{44}]`}, {of(68, 68, 65, 66), `[\u{41}-\u{42}\u{44}]`}, {of(65, 65, 66, 66), `[\u{41}-\u{42}]`}, {of(65, 67, 66, 70), `[\u{41}-\u{46}]`}, {of(65, 65, 65, 65), `[\u{41}]`}, {of(65, 65, 67, 67, 69, 69), `[\u{41}\u{43}\u{45}]`},
		{of(0, 0), `[\u{0}]`}, {of(0, 1), `[\u{0}-\u{1}]`}, {of(0, top), `[\u{0}-\u{10ffff}]`}, {of(math.MinInt, math.MaxInt), `[\u{0}-\u{10ffff}]`}, {of(top, top), `[\u{10ffff}]`}, {of(0, 0, top, top), `[\u{0}\u{10ffff}]`}, {of(-9, 2, top, top+7), `[\u{0}-\u{2}\u{10ffff}]`}, {of(1, top), `[\u{1}-\u{10ffff}]`}, {of(0, top-1), `[\u{0}-\u{10fffe}]`},
		{of(45, 45), `[\u{2d}]`}, {of(93, 93, 94, 94), `[\u{5d}-\u{5e}]`}, {of(0xd800, 0xdfff), `[\u{d800}-\u{dfff}]`}, {of(10, 10, 5, 2), `[\u{a}]`}, {of(48, 57, 95, 95, 97, 99), `[\u{30}-\u{39}\u{5f}\u{61}-\u{63}]`},
	} {
		if s := Text(w.l); s != w.want {
			t.Errorf("Text(%v): %s, not %s", w.l, s, w.want)
		}
	}
}

// back fails where Text of ranges isn't read as their set.
func back(t *testing.T, l []api.Range, behinds ...string) {
	t.Helper()
	s, set := Text(l), ranges.Of(l...)
	for _, behind := range behinds {
		told(t, s+behind, 0, false, set, len(s))
	}
}

// P12.3: all lists of up to two ranges of numbers at each edge; names; many numbers.
func TestBack(t *testing.T) {
	edges := []int{math.MinInt, -1, 0, 1, 2, 44, 45, 46, 91, 92, 93, 94, 127, 128, 0xd7ff, 0xd800, 0xdfff, 0xe000, 0xffff, 0x10000, top - 1, top, top + 1, math.MaxInt}
	for _, a := range edges {
		for _, b := range edges {
			back(t, of(a, b), behinds...)
			for _, c := range edges {
				back(t, of(a, b, c, c), "", "]")
				for _, d := range edges {
					back(t, of(a, b, c, d), "-z]")
				}
			}
		}
	}
	back(t, nil, behinds...)
	for _, name := range named.Names() {
		set, _ := named.Of(name)
		back(t, set, behinds...)
		back(t, ranges.Not(set), behinds...)
		s := Text(set)
		told(t, s+"]", 0, true, fold.Set(set), len(s))
	}
	for _, step := range []int{1, 2, 3, 7, 97, 4096} {
		var l []api.Range
		for c := top; c >= 0 && len(l) < 3000; c -= step {
			l = append(l, api.Range{Lo: c, Hi: c + step/3})
		}
		back(t, l, "", "z]")
	}
}

// P12.3: each number alone.
func TestBackAll(t *testing.T) {
	for c := range top + 1 {
		s := Text(of(c, c))
		if want := "[" + escape.Text(c) + "]"; s != want {
			t.Fatalf("Text of %d: %s, not %s", c, s, want)
		}
		told(t, s+behinds[c%len(behinds)], 0, false, of(c, c), len(s))
	}
}

// P12.1, P12.2: what is handed out is new memory, which nobody else sees; what is handed in is left as it is.
func TestMemory(t *testing.T) {
	bad := api.Range{Lo: -7, Hi: -9}
	for _, s := range []string{`[a]`, `[^a]`, `[a-cx]`, `[\d]`, `[\w]`, `[^\W]`, `[\p{Word}]`, `[\p{Any}]`, `[\d\h]`} {
		for _, folded := range []bool{false, true} {
			kept, _, _ := Parse(s, 0, folded)
			was := slices.Clone(kept)
			l, _, _ := Parse(s, 0, folded)
			all := l[:cap(l)]
			for i := range all {
				all[i] = bad
			}
			if again, _, _ := Parse(s, 0, folded); !slices.Equal(kept, was) || !slices.Equal(again, was) {
				t.Errorf("what was told of %s: %v, then %v", s, kept, again)
			}
		}
	}
	row := []api.Range{bad, {Lo: 9, Hi: 9}, {Lo: 5, Hi: 6}, {Lo: 7, Hi: 1}, bad, bad}
	was := slices.Clone(row)
	if s := Text(row[1:4]); s != `[\u{5}-\u{6}\u{9}]` || !slices.Equal(row, was) {
		t.Errorf("Text: %s, and the row is %v", s, row)
	}
}

package regex

import (
	"math"
	"slices"
	"strconv"
	"strings"
	"testing"

	"spool/api"
	"spool/arena"
	"spool/fold"
	"spool/named"
	"spool/ranges"
)

// someDefs are definitions, of some of which there are two, or whose trees may not be.
func someDefs() []api.Def {
	return []api.Def{
		{Name: "d", Tree: pair()}, {Name: "d", Tree: one(of('x', 'x'))}, {Name: "d"}, {Name: "_", Tree: one(of('y', 'z'))}, {Name: "bad"}, {Name: "bad", Tree: pair()},
		{Name: "a_1", Tree: padded(1)}, {Name: strings.Repeat("n", 32), Tree: one(of('n', 'n'))}, {Name: strings.Repeat("n", 33), Tree: padded(1)}, {Name: "3", Tree: padded(1)}, {Name: "", Tree: padded(1)}, {Name: "x y", Tree: padded(1)}, {Name: "é", Tree: padded(1)}, {Name: "D", Tree: one(of('k', 'k'))},
	}
}

// goes fails where an expression isn't told as a tree of a shape.
func goes(t *testing.T, s, want string, folded bool) {
	t.Helper()
	tree, f := Parse(s, someDefs(), folded)
	if f != (api.Fault{}) {
		t.Errorf("Parse(%q, .., %v): %v, not %s", s, folded, f, want)
		return
	}
	if e := arena.Check(tree); e != api.OK {
		t.Errorf("Parse(%q, .., %v): %v, which may not be", s, folded, tree)
		return
	}
	if is := shapeOf(tree, tree.Root); is != want {
		t.Errorf("Parse(%q, .., %v): %s, not %s", s, folded, is, want)
	}
}

// both fails where an expression without letters that folding turns isn't told as a tree of a shape, folded or not.
func both(t *testing.T, s, want string) {
	t.Helper()
	goes(t, s, want, false)
	goes(t, s, want, true)
}

// is fails where an expression isn't told as a fault alone, folded or not.
func is(t *testing.T, s string, e api.Errno, at int) {
	t.Helper()
	for _, folded := range []bool{false, true} {
		if tree, f := Parse(s, someDefs(), folded); f != (api.Fault{E: e, At: at}) || !zero(tree) {
			t.Errorf("Parse(%q, .., %v): %v, %v, not %d at %d", s, folded, tree, f, e, at)
		}
	}
}

// starts are what may stand ahead of a row's beginning, mids ahead of a part as well, and behinds behind a fault.
var (
	starts  = []string{"", "a|", "|", "a*|b{2}|", "(", "((a)|(", "(?i:", "b(?i:c|", "é|", "\"|\"|", "[|]|", "{d}|", `\||`, "\n|", "()|("}
	mids    = []string{"a", "ab", "a*", "a{2}", "(a)", "(a)+", "()", "(?i:a)", "é", "\"x\\\"\"", `""`, "[x]", "[x]?", "{d}", "{d}{2,}", ".", `\(`, `\d*`, "(a", "(?i:(a|b)c", " "}
	behinds = []string{"", "a", ")", "*", "(", "|", "\xff", `"`, "[", "]", "^", "(?", ".", "é"}
)

// stays fails where what begins a row isn't told as a fault, whatever stands about it.
func stays(t *testing.T, s string, e api.Errno, at int) {
	t.Helper()
	for _, ahead := range starts {
		for _, behind := range behinds {
			is(t, ahead+s+behind, e, len(ahead)+at)
		}
	}
}

// anywhere fails where what is a part isn't told as a fault, whatever stands about it.
func anywhere(t *testing.T, s string, e api.Errno, at int) {
	t.Helper()
	stays(t, s, e, at)
	for _, ahead := range mids {
		for _, behind := range behinds {
			is(t, ahead+s+behind, e, len(ahead)+at)
		}
	}
}

// P13.1: rows and parts, by hand.
func TestShapes(t *testing.T) {
	for s, want := range map[string]string{
		"": "e", "1": "1", "12": "<12>", "123": "<<12>3>", "1234": "<<<12>3>4>", "1|2": "<1|2>", "1|2|3": "<<1|2>|3>", "1|2|3|4": "<<<1|2>|3>|4>", "12|3": "<<12>|3>", "1|23": "<1|<23>>", "12|34|5": "<<<12>|<34>>|5>",
		"|": "<e|e>", "||": "<<e|e>|e>", "1|": "<1|e>", "|1": "<e|1>", "1||2": "<<1|e>|2>", "()": "e", "(|)": "<e|e>", "()()": "<ee>", "1()": "<1e>", "()1": "<e1>", "(())": "e", "(1|)2": "<<1|e>2>", "()|": "<e|e>", "|()": "<e|e>", "(?i:)": "e", "(?i:|)": "<e|e>",
		"(1)": "1", "((1))": "1", "(12)3": "<<12>3>", "1(23)": "<1<23>>", "1(2(34))": "<1<2<34>>>", "(1|2)3": "<<1|2>3>", "1(2|3)": "<1<2|3>>", "1|(2|3)": "<1|<2|3>>", "(1|2)|3": "<<1|2>|3>", "(1)(2)": "<12>", "(1(2)3)4": "<<<12>3>4>", "(?i:1)2": "<12>", "1(?i:2|3)4": "<<1<2|3>>4>", "(1|(2|(3)))": "<1|<2|3>>", "(12)(34)": "<<12><34>>", "(((1)2)3)": "<<12>3>", "(1)|(2)": "<1|2>", "5(1|2|3)(4)": "<<5<<1|2>|3>>4>",
		"1*": "1{0,-1}", "1+": "1{1,-1}", "1?": "1{0,1}", "12*": "<12{0,-1}>", "1*2": "<1{0,-1}2>", "1|2*": "<1|2{0,-1}>", "(12)*": "<12>{0,-1}", "(1|2)+": "<1|2>{1,-1}", "()*": "e{0,-1}", "(|)?": "<e|e>{0,1}", "(1*)*": "1{0,-1}{0,-1}", "((1*)+)?": "1{0,-1}{1,-1}{0,1}", "1*2*3*": "<<1{0,-1}2{0,-1}>3{0,-1}>", "1*|2+|3?": "<<1{0,-1}|2{1,-1}>|3{0,1}>", "(1?2+)*3": "<<1{0,1}2{1,-1}>{0,-1}3>", "(?i:1)*": "1{0,-1}", `""*`: "e{0,-1}", `"12"+`: "<12>{1,-1}", "[12]*": "[49-50]{0,-1}", `\d?`: "[48-57]{0,1}", ".*": "[0-9 11-1114111]{0,-1}", "1{2}{_}": "<1{2,2}[121-122]>", "1*{_}": "<1{0,-1}[121-122]>", "{_}{3}": "[121-122]{3,3}", "{_}*": "[121-122]{0,-1}", `\**`: "[42-42]{0,-1}", "(1+)2": "<1{1,-1}2>",
	} {
		both(t, s, want)
	}
	for s, want := range map[string]string{
		"a|b*": "<a|b{0,-1}>", "ab": "<ab>", "a{2}": "a{2,2}", "{d}": "<ab>", "x{d}y": "<<x<ab>>y>", "{d}|{d}": "<<ab>|<ab>>", "{d}*": "<ab>{0,-1}", "({d}){_}": "<<ab>[121-122]>", "{a_1}": "e", "{D}": "k", "{" + strings.Repeat("n", 32) + "}": "n",
	} {
		goes(t, s, want, false)
	}
}

// P13.1: how often, by hand.
func TestTimes(t *testing.T) {
	for s, want := range map[string]string{
		"{0}": "0,0", "{1}": "1,1", "{7}": "7,7", "{255}": "255,255", "{0,}": "0,-1", "{1,}": "1,-1", "{255,}": "255,-1", "{0,0}": "0,0", "{0,1}": "0,1", "{1,1}": "1,1", "{2,5}": "2,5", "{0,255}": "0,255", "{255,255}": "255,255", "{254,255}": "254,255", "{9,10}": "9,10", "{10,11}": "10,11", "{99,100}": "99,100",
		"{00}": "0,0", "{007}": "7,7", "{0255}": "255,255", "{000,0001}": "0,1", "{08,}": "8,-1", "{010,11}": "10,11", "{" + strings.Repeat("0", 4000) + "3}": "3,3", "{1," + strings.Repeat("0", 4000) + "3}": "1,3", "*": "0,-1", "+": "1,-1", "?": "0,1",
	} {
		both(t, "1"+s, "1{"+want+"}")
		both(t, "(1|2)"+s, "<1|2>{"+want+"}")
		both(t, "12"+s+"3", "<<12{"+want+"}>3>")
		both(t, "("+"1"+s+")|", "<1{"+want+"}|e>")
	}
	for lo := range 256 {
		for _, hi := range []int{0, 1, lo - 1, lo, lo + 1, 254, 255, 256, 257, 999} {
			s := "1{" + strconv.Itoa(lo) + "," + strconv.Itoa(max(hi, 0)) + "}"
			switch {
			case hi > 255:
				is(t, s, api.ErrBig, 1)
			case max(hi, 0) < lo:
				is(t, s, api.ErrRange, 1)
			default:
				both(t, s, "1{"+strconv.Itoa(lo)+","+strconv.Itoa(max(hi, 0))+"}")
			}
		}
	}
}

// P13.1: numbers of times that are wrong, and how often that is not written as it ought to.
func TestWrongTimes(t *testing.T) {
	for _, s := range []string{"{256}", "{256,}", "{0,256}", "{255,256}", "{256,256}", "{256,300}", "{256,0}", "{300,2}", "{1,1000000000}", "{4294967297}", "{4294967296}", "{1,4294967297}", "{18446744073709551617}", "{18446744073709551616,}", "{9223372036854775808,1}", "{00256}", "{" + strings.Repeat("9", 4000) + "}", "{" + strings.Repeat("0", 3000) + "256,}", "{2," + strings.Repeat("1", 3000) + "}"} {
		anywhere(t, "a"+s, api.ErrBig, 1)
		anywhere(t, "(a)"+s, api.ErrBig, 3)
	}
	for _, s := range []string{"{1,0}", "{2,1}", "{255,254}", "{255,0}", "{10,9}", "{100,99}", "{002,01}"} {
		anywhere(t, "a"+s, api.ErrRange, 1)
		anywhere(t, `"a"`+s, api.ErrRange, 3)
	}
	for _, s := range []string{"{1", "{12", "{1,", "{1,2", "{1 }", "{1x}", "{1,x}", "{1,2x}", "{1, 2}", "{1,2 }", "{1,2,}", "{1,2,3}", "{1,,2}", "{1;2}", "{1-2}", "{1{", "{1,{2}", "{1é}", "{1\xff}", "{256", "{256,1", "{2,1", "{2,1x}", "{300,1 }", "{0x1}", "{1,+2}", "{1,-2}", "{" + strings.Repeat("1", 3000)} {
		anywhere(t, "a"+s, api.ErrForm, 1)
		anywhere(t, "[a]"+s, api.ErrForm, 3)
		stays(t, s, api.ErrForm, 0)
	}
	// A `{` without a digit begins a name.
	for _, s := range []string{"{}", "{,}", "{,2}", "{ 1}", "{-1}", "{+1}", "{x", "{", "{,", "{é}", "{ }", "{x ", "{{", "{\xff}", "{\n}", "{|}", "{)}"} {
		anywhere(t, "a"+s, api.ErrForm, 1)
		anywhere(t, s, api.ErrForm, 0)
	}
}

// P13.1: how often without what belongs to it, and behind how often.
func TestLoneTimes(t *testing.T) {
	for _, s := range []string{"*", "+", "?", "{2}", "{2,}", "{2,3}", "{0}", "{256}", "{2,1}", "{1x}", "{1"} {
		for _, ahead := range starts {
			// Behind a `(` a `?` is another thing.
			if s == "?" && strings.HasSuffix(ahead, "(") {
				continue
			}
			for _, behind := range behinds {
				is(t, ahead+s+behind, api.ErrForm, len(ahead))
			}
		}
		for _, first := range []string{"*", "+", "?", "{2}", "{2,}", "{2,3}", "{0}"} {
			for _, atom := range []string{"a", "(a)", `"a"`, "(a", "{d}", "[a]", `\d`, "()", "é", "."} {
				for _, ahead := range []string{"", "b", "b*", "b|", "((b|", "(?i:", "é"} {
					is(t, ahead+atom+first+s, api.ErrUnsupported, len(ahead)+len(atom)+len(first))
					is(t, ahead+atom+first+s+"^", api.ErrUnsupported, len(ahead)+len(atom)+len(first))
				}
			}
		}
	}
	for _, first := range []string{"{256}", "{2,1}", "{1x}"} {
		e := map[string]api.Errno{"{256}": api.ErrBig, "{2,1}": api.ErrRange, "{1x}": api.ErrForm}[first]
		anywhere(t, "a"+first+"*", e, 1)
		anywhere(t, "a"+first+"{2}", e, 1)
	}
	for _, s := range []string{"a**", "a*+", "a*?", "a+?", "a??", "a{2}?"} {
		anywhere(t, s, api.ErrUnsupported, len(s)-1)
	}
	both(t, "(1*)*", "1{0,-1}{0,-1}")
	both(t, "1*()*", "<1{0,-1}e{0,-1}>")
	anywhere(t, "a*{x y}", api.ErrForm, 2)
	anywhere(t, "a*{nobody}", api.ErrName, 2)
	anywhere(t, "a*{", api.ErrForm, 2)
}

// P13.1: each byte, and each code point, alone and in quotes.
func TestPoints(t *testing.T) {
	special := map[byte]api.Errno{'*': api.ErrForm, '+': api.ErrForm, '?': api.ErrForm, ')': api.ErrForm, ']': api.ErrForm, '}': api.ErrForm, '(': api.ErrForm, '[': api.ErrForm, '{': api.ErrForm, '\\': api.ErrForm, '"': api.ErrForm, '^': api.ErrUnsupported, '$': api.ErrUnsupported, '/': api.ErrUnsupported}
	for c := range 256 {
		s := string([]byte{byte(c)})
		e, ok := special[byte(c)]
		switch {
		case ok:
			is(t, s, e, 0)
		case c > 127:
			is(t, s, api.ErrForm, 0)
			is(t, "a"+s, api.ErrForm, 1)
		case c != '.' && c != '|':
			goes(t, s, setShape(of(c, c)), false)
			goes(t, "1"+s, "<1"+setShape(of(c, c))+">", false)
		}
	}
	both(t, ".", "[0-9 11-1114111]")
	both(t, "(?i:.)", "[0-9 11-1114111]")
	for c := range top + 1 {
		if c >= 0xd800 && c <= 0xdfff {
			continue
		}
		s := string(rune(c))
		if c > 127 {
			point(t, s, c)
		}
		if c != '"' && c != '\\' {
			point(t, `"`+s+`"`, c)
		}
	}
}

// point fails where a text isn't told as just one number.
func point(t *testing.T, s string, c int) {
	t.Helper()
	tree, f := Parse(s, nil, false)
	if f != (api.Fault{}) || len(tree.Nodes) != 1 || tree.Nodes[0] != (api.Node{Op: api.Set}) || len(tree.Sets) != 1 || !slices.Equal(tree.Sets[0], of(c, c)) {
		t.Fatalf("Parse(%q): %v, %v", s, tree, f)
	}
}

// P13.1: no code point.
func TestNoPoint(t *testing.T) {
	for _, s := range []string{"\xff", "\x80", "\xc3", "\xc0\x80", "\xed\xa0\x80", "\xf4\x90\x80\x80", "\xf0\x9f\x98", "\xe2\x82"} {
		anywhere(t, s, api.ErrForm, 0)
		anywhere(t, `"`+s, api.ErrForm, 1)
		anywhere(t, `"aé`+s, api.ErrForm, 4)
		anywhere(t, `[a`+s, api.ErrForm, 2)
		anywhere(t, `\`+s, api.ErrForm, 0)
		anywhere(t, `"\`+s, api.ErrForm, 1)
		anywhere(t, "{"+s+"}", api.ErrForm, 0)
	}
}

// P13.1: what is not supported.
func TestUnsupported(t *testing.T) {
	for _, s := range []string{"^", "$", "/", "(?", "(?)", "(?:a)", "(?=a)", "(?!a)", "(?<a>b)", "(?P<a>b)", "(?i", "(?i)", "(?I:a)", "(?is:a)", "(?-i:a)", "(?s:a)", "(?#a)", "(??", "(?*", "(? i:a)", "(?:", "(?i;", "(?\xff", "(?|"} {
		anywhere(t, s, api.ErrUnsupported, 0)
	}
	for _, s := range []string{"a^", "a$", "a/", "a*$", "(^", "(a$", "a|^"} {
		anywhere(t, s, api.ErrUnsupported, len(s)-1)
	}
	for s, want := range map[string]string{`\^\$\/`: "<<[94-94][36-36]>[47-47]>", `"^$/"`: "<<[94-94][36-36]>[47-47]>", `[$/^]`: "[36-36 47-47 94-94]", `(\?)`: "[63-63]", `"(?"`: "<[40-40][63-63]>"} {
		both(t, s, want)
	}
}

// P13.1: brackets without what belongs to them.
func TestBrackets(t *testing.T) {
	for _, s := range []string{"]", "}"} {
		anywhere(t, s, api.ErrForm, 0)
	}
	for s, at := range map[string]int{")": 0, "a)": 1, "())": 2, "(a))b": 3, "|)": 1, "a|b)": 3, ")(": 0, "a*)": 2, "(?i:a))": 6, `")")`: 3, `[)])`: 3, `\))`: 2, "((a)))(": 5, "{d})": 3, ")\xff": 0, "))": 0} {
		is(t, s, api.ErrForm, at)
	}
	// Of several `(` that do not end the last one is told.
	for s, at := range map[string]int{"(": 0, "((": 1, "(((": 2, "a(": 1, "(a": 0, "(a|": 0, "a(b(c)": 1, "(a(b)": 0, "(a)(": 3, "(a(b)(c": 5, "(?i:": 0, "(?i:(": 4, "((?i:a": 1, "()(": 2, "(()": 0, "(()(": 3, "((a)*": 0, "(a(b(c)d)e": 0, `("("`: 0, `([(]`: 0, `(\(`: 0, "é(": 2, "(é(": 3, "(é(é": 3, "({d}": 0, "a|(b|(c|d)": 2, "(\n": 0, "((((a)": 2, "((((a))": 1, "((((a)))": 0} {
		is(t, s, api.ErrForm, at)
	}
	// It is told only if nothing else is wrong.
	for s, f := range map[string]api.Fault{
		"(a]": {E: api.ErrForm, At: 2}, "((a^": {E: api.ErrUnsupported, At: 3}, "(a**": {E: api.ErrUnsupported, At: 3}, "({nobody}": {E: api.ErrName, At: 1}, "(a{2,1}": {E: api.ErrRange, At: 2}, "(a{256}": {E: api.ErrBig, At: 2}, "(\xff": {E: api.ErrForm, At: 1}, "([a": {E: api.ErrForm, At: 1}, "(a[": {E: api.ErrForm, At: 2}, `(a\`: {E: api.ErrForm, At: 2}, `(\q`: {E: api.ErrForm, At: 1}, `("a`: {E: api.ErrForm, At: 1}, `(("`: {E: api.ErrForm, At: 2}, "(*": {E: api.ErrForm, At: 1}, "(a|+": {E: api.ErrForm, At: 3}, "({bad}": {E: api.ErrForm, At: 1}, "([z-a]": {E: api.ErrRange, At: 2}, `(\b`: {E: api.ErrUnsupported, At: 1},
	} {
		is(t, s, f.E, f.At)
	}
}

// P13.1: how deep groups may be.
func TestDeep(t *testing.T) {
	for _, open := range []string{"(", "(?i:", "(1|", "()(", "2(?i:3|"} {
		for n := 30; n <= 40; n++ {
			s := strings.Repeat(open, n)
			last := strings.LastIndexByte(open, '(')
			if n <= 32 {
				if _, f := Parse(s+"4"+strings.Repeat(")", n), nil, false); f != (api.Fault{}) {
					t.Errorf("%d times %s: %v", n, open, f)
				}
				is(t, s, api.ErrForm, (n-1)*len(open)+last)
				continue
			}
			at := 32*len(open) + strings.IndexByte(open, '(')
			for _, behind := range []string{"", "4" + strings.Repeat(")", n), "\xff", "*", ")"} {
				is(t, s+behind, api.ErrDeep, at)
			}
		}
	}
	in := strings.Repeat("(", 32)
	out := strings.Repeat(")", 32)
	both(t, in+"1"+out, "1")
	both(t, in+"1"+out+"("+in[1:]+"2"+out[1:]+")", "<12>")
	both(t, in+"1)(2)(3)|(4)"+out[1:], "<<<12>3>|4>")
	both(t, in+`"(("[((]\(`+out, "<<<[40-40][40-40]>[40-40]>[40-40]>")
	is(t, in+"(?:a)", api.ErrUnsupported, 32)
	is(t, in+"(?i", api.ErrUnsupported, 32)
	is(t, in+"(?i:", api.ErrDeep, 32)
	is(t, in+"a(", api.ErrDeep, 33)
	is(t, in+"a)(((", api.ErrDeep, 35)
	is(t, in+"^(", api.ErrUnsupported, 32)
	// Groups that are closed count for nothing.
	if tree, f := Parse(strings.Repeat("()", 2048), nil, false); f != (api.Fault{}) || len(tree.Nodes) != 4095 {
		t.Errorf("2048 groups: %d nodes, %v", len(tree.Nodes), f)
	}
}

// P13.1: what stands in quotes.
func TestQuotes(t *testing.T) {
	for s, want := range map[string]string{
		`""`: "e", `"1"`: "1", `"12"`: "<12>", `"123"`: "<<12>3>", `"1234"`: "<<<12>3>4>", `""""`: "<ee>", `"""1"`: "<e1>", `"1""2"`: "<12>", `3"12"`: "<3<12>>", `"12"3`: "<<12>3>", `"12"*`: "<12>{0,-1}", `"1|2"`: "<<1[124-124]>2>", `"1"|"2"`: "<1|2>", `("1")`: "1", `"(1)"`: "<<[40-40]1>[41-41]>", `"*"`: "[42-42]", `"{2}"`: "<<[123-123]2>[125-125]>", `"[1]"`: "<<[91-91]1>[93-93]>", `"."`: "[46-46]", `"^$/"`: "<<[94-94][36-36]>[47-47]>", "\"\n\"": "[10-10]", "\"\x00\"": "[0-0]", `" "`: "[32-32]", `"€"`: "[8364-8364]",
		`"\""`: "[34-34]", `"\\"`: "[92-92]", `"\"\\"`: "<[34-34][92-92]>", `"\n1"`: "<[10-10]1>", `"1\n"`: "<1[10-10]>", `"\x31"`: "1", `"\x312"`: "<12>", `"\u{31}2"`: "<12>", `"\u{10ffff}"`: "[1114111-1114111]", `"\0"`: "[0-0]", `"\."`: "[46-46]", `"\€"`: "[8364-8364]", `"\u{d800}"`: "[55296-55296]", `"\a\e\t\v\f\r"`: "<<<<<[7-7][27-27]>[9-9]>[11-11]>[12-12]>[13-13]>", `"\]"`: "[93-93]",
	} {
		both(t, s, want)
	}
	for _, c := range []string{`\d`, `\w`, `\s`, `\h`, `\D`, `\W`, `\S`, `\H`} {
		anywhere(t, `"`+c, api.ErrForm, 1)
		anywhere(t, `"ab`+c+`"`, api.ErrForm, 3)
		anywhere(t, `"\n`+c+`\b`, api.ErrForm, 3)
	}
	for _, name := range named.Names() {
		anywhere(t, `"a\p{`+name+`}`, api.ErrForm, 2)
		anywhere(t, `"a\P{`+name+`}"`, api.ErrForm, 2)
	}
	for _, s := range []string{`"`, `"a`, `"ab`, `"a\"`, `"\\`, `"(`, `"(a)`, `"*`, `"a\n`, `"\u{41}`, `"a|b`, `"é`, `"[`, "\"\n"} {
		for _, ahead := range slices.Concat(starts, mids) {
			is(t, ahead+s, api.ErrForm, len(ahead))
		}
	}
	is(t, `"a""`, api.ErrForm, 3)
	is(t, `"a"b"c`, api.ErrForm, 4)
	is(t, `"a\`, api.ErrForm, 2)
	is(t, `"\x4`, api.ErrForm, 1)
}

// P13.1: escapes' and classes' faults, each as their own layer tells it.
func TestOthersFaults(t *testing.T) {
	for s, e := range map[string]api.Errno{`\b`: api.ErrUnsupported, `\1`: api.ErrUnsupported, `\X41`: api.ErrUnsupported, `\Q`: api.ErrUnsupported, `\q`: api.ErrForm, `\xg1`: api.ErrForm, `\u41`: api.ErrForm, `\u{}`: api.ErrForm, `\u{g}`: api.ErrForm, `\u{1234567}`: api.ErrForm, "\\\xff": api.ErrForm, `\u{110000}`: api.ErrRange, `\p{Nobody}`: api.ErrName, `\P{Nobody}`: api.ErrName, `\p{}`: api.ErrName, `\pD`: api.ErrForm} {
		anywhere(t, s, e, 0)
		anywhere(t, "a"+s, e, 1)
		anywhere(t, `"`+s, e, 1)
		anywhere(t, `"a`+s+`"`, e, 2)
		anywhere(t, `[`+s, e, 1)
		anywhere(t, `[^a-`+s, e, 4)
	}
	for s, f := range map[string]api.Fault{
		"[z-a]": {E: api.ErrRange, At: 1}, "[]": {E: api.ErrForm, At: 1}, "[^]": {E: api.ErrForm, At: 2}, "[[:": {E: api.ErrUnsupported, At: 1}, "[a[.": {E: api.ErrUnsupported, At: 2}, `[a-\d`: {E: api.ErrForm, At: 3}, "[a\xff": {E: api.ErrForm, At: 2}, `[aé-b`: {E: api.ErrRange, At: 2},
	} {
		anywhere(t, s, f.E, f.At)
		anywhere(t, "b"+s, f.E, 1+f.At)
	}
	for _, s := range []string{"[", "[a", "[^", "[a-", `[\]`, "[^a-c", "[(", `["`} {
		for _, ahead := range slices.Concat(starts, mids) {
			is(t, ahead+s, api.ErrForm, len(ahead))
		}
	}
	for s, at := range map[string]int{`\`: 0, `a\`: 1, `(\`: 1, `\x4`: 0, `a\u{4`: 1, `[a\`: 2, `[a\p{D`: 2, `a*\`: 2} {
		is(t, s, api.ErrForm, at)
	}
}

// P13.1: definitions.
func TestDefs(t *testing.T) {
	for _, s := range []string{"{bad}", "{bad}{2}", "{}", "{x y}", "{ d}", "{d }", "{d", "{d-}", "{d,2}", "{é}", "{dé}", "{" + strings.Repeat("n", 33) + "}", "{d\x00}", "{d\n}", "{d{d}", "{{d}}", "{d|d}", "{\"d\"}", `{\d}`, "{d)}", "{-d}"} {
		anywhere(t, s, api.ErrForm, 0)
	}
	for _, s := range []string{"{nobody}", "{dd}", "{D_}", "{d1}", "{__}", "{Bad}", "{" + strings.Repeat("n", 31) + "}", "{" + strings.Repeat("m", 32) + "}", "{nobody}{2,1}", "{nobody}**"} {
		anywhere(t, s, api.ErrName, 0)
	}
	stays(t, "{1d}", api.ErrForm, 0)
	anywhere(t, "a{1d}", api.ErrForm, 1)
	is(t, "{d}}", api.ErrForm, 3)
	is(t, "{3}", api.ErrForm, 0)
	// Trees that may not be, each in its own way, and ones that nobody asks for.
	for i, tree := range []api.Tree{
		{}, {Nodes: []api.Node{{}}}, {Nodes: []api.Node{{Op: 6}}}, {Nodes: []api.Node{{Op: api.Set}}}, {Nodes: []api.Node{{Op: api.Empty}}, Root: 1}, {Nodes: []api.Node{{Op: api.Empty}}, Root: -1}, {Nodes: []api.Node{{Op: api.Empty}}, Root: math.MaxInt}, {Nodes: []api.Node{{Op: api.Empty}, {Op: api.Cat, B: 1}}}, one(of(2, 1)), one(of(1, 2, 2, 3)), one(of(-1, 3)), {Nodes: []api.Node{{Op: api.Empty}, {Op: api.Rep, Lo: 2, Hi: 1}}, Root: 1}, padded(4097), {Nodes: []api.Node{{Op: api.Empty}}, Sets: make([][]api.Range, 4097)},
	} {
		defs := []api.Def{{Name: "x", Tree: tree}, {Name: "x", Tree: pair()}, {Name: "y", Tree: pair()}}
		if u, f := Parse("a{x}^", defs, false); f != (api.Fault{E: api.ErrForm, At: 1}) || !zero(u) {
			t.Errorf("with the tree %d: %v", i, f)
		}
		if u, f := Parse("a{y}", defs, false); f != (api.Fault{}) || shapeOf(u, u.Root) != "<a<ab>>" {
			t.Errorf("beside the tree %d: %v", i, f)
		}
	}
	if u, f := Parse("a{x}", nil, false); f != (api.Fault{E: api.ErrName, At: 1}) || !zero(u) {
		t.Errorf("without definitions: %v, %v", u, f)
	}
}

// P13.1: what is folded, and what is not.
func TestFolded(t *testing.T) {
	for s, want := range map[string]string{
		"k": "[75-75 107-107]", "K": "[75-75 107-107]", "1": "1", "é": "[201-201 233-233]", "×": "[215-215]", "ß": "[223-223]", "Ж": "[1046-1046 1078-1078]", "[k]": "[75-75 107-107]", "[^k]": "[0-74 76-106 108-1114111]", "[a-c]": "[65-67 97-99]", "[^A-C]": "[0-64 68-96 100-1114111]", `\x4b`: "[75-75 107-107]", `\u{4b}`: "[75-75 107-107]", `\d`: "[48-57]", `"k"`: "[75-75 107-107]", `"k\x41"`: "<[75-75 107-107][65-65 97-97]>", `"1K"`: "<1[75-75 107-107]>", `"\n"`: "[10-10]", `"\u{e9}"`: "[201-201 233-233]",
		".": "[0-9 11-1114111]", "{D}": "k", "{d}": "<ab>", "{d}b": "<<ab>[66-66 98-98]>", "(k)": "[75-75 107-107]", "((k))": "[75-75 107-107]", "(k|{D})": "<[75-75 107-107]|k>", "k*": "[75-75 107-107]{0,-1}", "{_}{D}": "<[121-122]k>",
	} {
		goes(t, s, want, true)
		both(t, "(?i:"+s+")", want)
		both(t, "(?i:("+s+"))", want)
		both(t, "((?i:"+s+"))", want)
		both(t, "(?i:(?i:"+s+"))", want)
	}
	for s, want := range map[string]string{
		"k(?i:k)k": "<<k[75-75 107-107]>k>", "(?i:k)k": "<[75-75 107-107]k>", "(?i:k|(k)k)k|k": "<<<[75-75 107-107]|<[75-75 107-107][75-75 107-107]>>k>|k>", "((?i:k)k)k": "<<[75-75 107-107]k>k>", "(?i:(k)k)k": "<<[75-75 107-107][75-75 107-107]>k>", "(?i:(?i:k)k)k": "<<[75-75 107-107][75-75 107-107]>k>", `"(?i:k)"`: "<<<<<[40-40][63-63]>i>[58-58]>k>[41-41]>", "(?i:[k])[k]": "<[75-75 107-107]k>", `(?i:\x4b)\x4b`: "<[75-75 107-107]K>", `(?i:"k")"k"`: "<[75-75 107-107]k>", "(?i:(k)|(k))(k)": "<<[75-75 107-107]|[75-75 107-107]>k>", "(?i:)k": "<ek>", "(?i:k){2}k": "<[75-75 107-107]{2,2}k>",
		"k": "k", "K": "K", "[k]": "k", "[^K]": "[0-74 76-1114111]", `"k"`: "k", `\x4B`: "K",
	} {
		goes(t, s, want, false)
	}
	for _, name := range named.Names() {
		set, _ := named.Of(name)
		for s, l := range map[string][]api.Range{`\p{`: set, `\P{`: ranges.Not(set)} {
			goes(t, s+name+"}", setShape(l), false)
			goes(t, s+name+"}", setShape(fold.Set(l)), true)
			both(t, "(?i:"+s+name+"})", setShape(fold.Set(l)))
			both(t, "(?i:[^"+s+name+"}])", setShape(ranges.Not(fold.Set(l))))
		}
	}
	for _, c := range []byte("dwshDWSH") {
		set, _ := named.Short(c)
		goes(t, `\`+string(rune(c)), setShape(set), false)
		both(t, `(?i:\`+string(rune(c))+")", setShape(fold.Set(set)))
	}
}

// P13.1: the text's length counts ahead of all else.
func TestTooLong(t *testing.T) {
	for _, s := range []string{"[" + strings.Repeat("a", 4094) + "]", "a{" + strings.Repeat("0", 4092) + "1}", strings.Repeat("a|", 1000) + "[" + strings.Repeat("b", 2094) + "]", strings.Repeat("[aaaaaa]", 512)} {
		if len(s) != 4096 {
			t.Fatalf("%d bytes", len(s))
		}
		if u, f := Parse(s, nil, false); f != (api.Fault{}) || arena.Check(u) != api.OK {
			t.Errorf("Parse of %s..: %v", s[:20], f)
		}
		for _, more := range []string{"a", " ", "*", "\xff", "^", ")", strings.Repeat("a", 1<<20)} {
			is(t, s+more, api.ErrBig, 0)
			is(t, more+s, api.ErrBig, 0)
		}
	}
	is(t, strings.Repeat("^", 4097), api.ErrBig, 0)
	is(t, strings.Repeat("(", 4097), api.ErrBig, 0)
	is(t, strings.Repeat("^", 4096), api.ErrUnsupported, 0)
	is(t, strings.Repeat("a", 500)+"\xff"+strings.Repeat("a", 3595), api.ErrForm, 500)
}

// P13.1: too many nodes: of each expression, where the things begin whose nodes are made, one by one, behind those of a definition.
func TestRoom(t *testing.T) {
	for s, places := range map[string][]int{
		"{p}": nil, "{p}a": {3, 3}, "{p}ab": {3, 3, 4, 4}, "{p}|a": {4, 4}, "{p}|": {4, 4}, "{p}||": {4, 4, 5, 5}, "{p}()": {4, 3}, "{p}(|)": {4, 5, 5, 3}, "{p}(a)": {4, 3}, "{p}(ab)c": {4, 5, 5, 3, 7, 7}, "{p}(a|b)": {4, 6, 6, 3}, "{p}*": {3}, "{p}{2}a": {3, 6, 6}, "{p}a*": {3, 4, 3}, "{p}a{2,3}b": {3, 4, 3, 9, 9}, `{p}""`: {3, 3}, `{p}"a"`: {4, 3}, `{p}"abc"`: {4, 5, 5, 6, 6, 3}, `{p}"ab"*`: {4, 5, 5, 7, 3}, `{p}"a\nb`: {4, 5, 5, 7, 7},
		"{p}|ab": {4, 5, 5, 4}, "{p}|ab|c": {4, 5, 5, 4, 7, 7}, "({p})a": {5, 5}, "({p}|a)*": {5, 5, 7}, "a{p}": nil, "{p}{q}": {3, 3, 3, 3, 3}, "{p}{q}{q}": {3, 3, 3, 3, 3, 6, 6, 6, 6, 6}, "{p}|{q}*": {4, 4, 4, 4, 7, 4}, "{p}.[a-c]": {3, 3, 4, 4}, `{p}\d\n`: {3, 3, 5, 5}, "{p}(?i:a)": {7, 3}, "{p}é|é": {3, 3, 6, 6}, "{p}((a)b)c": {5, 7, 7, 3, 9, 9},
		"{p}(": {4}, "{p}(a": {4}, "{p}(a|": {4, 6, 6},
	} {
		for left := range 20 {
			room := api.MaxNodes - left
			// What stands ahead of the definition has nodes, too.
			if strings.HasPrefix(s, "a") {
				room -= 2
			}
			defs := []api.Def{{Name: "p", Tree: padded(room)}, {Name: "q", Tree: pair()}}
			tree, f := Parse(s, defs, false)
			want := api.Fault{}
			if left < len(places) {
				want = api.Fault{E: api.ErrBig, At: places[left]}
			} else if strings.Contains(s, `"a\nb`) || strings.HasPrefix(s, "{p}(") && !strings.Contains(s, ")") {
				want = api.Fault{E: api.ErrForm, At: 3}
			}
			if f != want || f != (api.Fault{}) != zero(tree) || !zero(tree) && len(tree.Nodes) != 4096-left+len(places) {
				t.Errorf("Parse(%q) with room for %d nodes: %d nodes, %v, not %v", s, left, len(tree.Nodes), f, want)
			}
		}
	}
	defs := []api.Def{{Name: "p", Tree: padded(4096)}, {Name: "q", Tree: pair()}, {Name: "h", Tree: padded(2048)}}
	for s, f := range map[string]api.Fault{
		"a{p}": {E: api.ErrBig, At: 1}, "{p}{p}": {E: api.ErrBig, At: 3}, "{q}|{p}": {E: api.ErrBig, At: 4}, "{h}{h}": {E: api.ErrBig, At: 3}, "{h}|{h}": {E: api.ErrBig, At: 4}, "{h}({h})": {E: api.ErrBig, At: 3}, "{h}(a{h})": {E: api.ErrBig, At: 5}, "{p}{nobody}": {E: api.ErrName, At: 3}, "{p}{256}": {E: api.ErrBig, At: 3}, "{p}{2,1}": {E: api.ErrRange, At: 3}, "{p}^": {E: api.ErrUnsupported, At: 3}, `{p}\q`: {E: api.ErrForm, At: 3}, "{p}[a": {E: api.ErrForm, At: 3}, "{p})": {E: api.ErrForm, At: 3}, "{p}]": {E: api.ErrForm, At: 3}, "{p}a]": {E: api.ErrBig, At: 3}, "{p}\xff": {E: api.ErrForm, At: 3}, "{p}**": {E: api.ErrBig, At: 3}, "{p}(*": {E: api.ErrForm, At: 4},
	} {
		if tree, g := Parse(s, defs, false); f != g || !zero(tree) {
			t.Errorf("Parse(%q): %v, not %v", s, g, f)
		}
	}
}

// P13.1: each part has nodes of its own, so that many parts are too many.
func TestManyParts(t *testing.T) {
	for s, f := range map[string]api.Fault{
		strings.Repeat("a", 2048): {}, strings.Repeat("a", 2049): {E: api.ErrBig, At: 2048}, strings.Repeat("a", 4096): {E: api.ErrBig, At: 2048}, `"` + strings.Repeat("a", 2048) + `"`: {}, `"` + strings.Repeat("a", 2049) + `"`: {E: api.ErrBig, At: 2049}, `"` + strings.Repeat("a", 2049): {E: api.ErrBig, At: 2049}, `"` + strings.Repeat("a", 2048): {E: api.ErrForm, At: 0}, strings.Repeat("a|", 2047) + "a": {}, strings.Repeat("a|", 2048): {E: api.ErrBig, At: 4096}, strings.Repeat("|", 2047): {}, strings.Repeat("|", 2048): {E: api.ErrBig, At: 2048}, strings.Repeat("|", 4096): {E: api.ErrBig, At: 2048}, strings.Repeat("a*", 1365): {}, strings.Repeat("a*", 1366): {E: api.ErrBig, At: 2730}, "(" + strings.Repeat("a", 2048) + ")": {}, "(" + strings.Repeat("a", 2048) + ")b": {E: api.ErrBig, At: 2050}, strings.Repeat("a", 2048) + "*": {}, strings.Repeat("a", 2048) + "**": {E: api.ErrUnsupported, At: 2049}, strings.Repeat("a", 2048) + "*)": {E: api.ErrForm, At: 2049}, strings.Repeat("(", 20) + strings.Repeat("a", 2049): {E: api.ErrBig, At: 2068},
	} {
		tree, g := Parse(s, nil, false)
		if f != g || f != (api.Fault{}) != zero(tree) || arena.Check(tree) != api.OK && !zero(tree) {
			t.Errorf("Parse of %d bytes, %s..: %v, not %v", len(s), s[:5], g, f)
		}
	}
}

// P13.1, P13.2: definitions with more sets than nodes leave no room for sets.
func TestManySets(t *testing.T) {
	defs := []api.Def{
		{Name: "p", Tree: api.Tree{Nodes: []api.Node{{Op: api.Empty}}, Sets: make([][]api.Range, 4095)}}, {Name: "full", Tree: api.Tree{Nodes: []api.Node{{Op: api.Empty}}, Sets: make([][]api.Range, 4096)}}, {Name: "one", Tree: one(of('k', 'k'))}, {Name: "none", Tree: padded(1)},
	}
	for s, f := range map[string]api.Fault{
		"{p}": {}, "{p}a": {}, "{p}ab": {E: api.ErrBig, At: 4}, "{p}a*|": {}, "{p}{one}": {}, "{p}{one}a": {E: api.ErrBig, At: 8}, "{p}{one}{one}": {E: api.ErrBig, At: 8}, "{p}{p}": {E: api.ErrBig, At: 3}, "{full}{none}|()*": {}, "{full}a": {E: api.ErrBig, At: 6}, `{full}"a"`: {E: api.ErrBig, At: 7}, `{full}""`: {}, "{full}[a]": {E: api.ErrBig, At: 6}, "a{full}": {E: api.ErrBig, At: 1}, "{full}.": {E: api.ErrBig, At: 6}, "{full}{full}": {E: api.ErrBig, At: 6},
	} {
		if tree, g := Parse(s, defs, false); f != g || f == (api.Fault{}) && arena.Check(tree) != api.OK || f != (api.Fault{}) && !zero(tree) {
			t.Errorf("Parse(%q): %v, not %v", s, g, f)
		}
	}
}

// copied is a tree that shares no memory with another one.
func copied(t api.Tree) api.Tree {
	c := api.Tree{Nodes: slices.Clone(t.Nodes), Root: t.Root}
	for _, l := range t.Sets {
		c.Sets = append(c.Sets, slices.Clone(l))
	}
	return c
}

// equal tells whether two trees have one by one the same nodes, sets and Root.
func equal(a, b api.Tree) bool {
	return a.Root == b.Root && slices.Equal(a.Nodes, b.Nodes) && slices.EqualFunc(a.Sets, b.Sets, slices.Equal[[]api.Range])
}

// spoil overwrites all of a tree's lists, their spare room too.
func spoil(t api.Tree) {
	for _, l := range t.Sets {
		l = l[:cap(l)]
		for i := range l {
			l[i] = api.Range{Lo: -7, Hi: -9}
		}
	}
	sets, nodes := t.Sets[:cap(t.Sets)], t.Nodes[:cap(t.Nodes)]
	for i := range sets {
		sets[i] = nil
	}
	for i := range nodes {
		nodes[i] = api.Node{Op: -1}
	}
}

// P13.1: what is handed out is new memory, which nobody else sees; what is handed in is left as it is.
func TestMemory(t *testing.T) {
	defs := someDefs()
	for i := range defs {
		// Spare room, in which nothing may be written.
		d := &defs[i].Tree
		d.Nodes = append(d.Nodes, api.Node{Op: 99})[:len(d.Nodes)]
		for k, l := range d.Sets {
			d.Sets[k] = append(l, api.Range{Lo: 99, Hi: 98})[:len(l)]
		}
		d.Sets = append(d.Sets, of(99, 98))[:len(d.Sets)]
	}
	was := make([]api.Tree, len(defs))
	for i, d := range defs {
		was[i] = copied(api.Tree{Nodes: d.Tree.Nodes[:cap(d.Tree.Nodes)], Sets: d.Tree.Sets[:cap(d.Tree.Sets)], Root: d.Tree.Root})
		for k, l := range was[i].Sets {
			was[i].Sets[k] = l[:len(l):len(l)]
		}
	}
	for _, s := range []string{"{d}", "{d}{d}", "{d}|a", "a", ".", `\w[^\w]`, "(?i:{d}k)", `"ab"`, "((a|b)*{_})|{D}", "{d}{d}|{D}{2}"} {
		kept, _ := Parse(s, defs, false)
		first := copied(kept)
		again, _ := Parse(s, defs, false)
		// No two lists of one answer share memory: what is written to one is seen in no other.
		for k, l := range again.Sets {
			l = l[:cap(l)]
			for i := range l {
				l[i] = api.Range{Lo: -7, Hi: -9}
			}
			again.Sets[k] = nil
			for j := k + 1; j < len(again.Sets); j++ {
				if !slices.Equal(again.Sets[j], first.Sets[j]) {
					t.Errorf("Parse(%q): sets %d and %d share memory", s, k, j)
				}
			}
		}
		spoil(again)
		third, f := Parse(s, defs, false)
		if f != (api.Fault{}) || !equal(kept, first) || !equal(third, first) {
			t.Errorf("Parse(%q): %v, then %v, %v", s, first, third, f)
		}
		for i, d := range defs {
			if now := (api.Tree{Nodes: d.Tree.Nodes[:cap(d.Tree.Nodes)], Sets: d.Tree.Sets[:cap(d.Tree.Sets)], Root: d.Tree.Root}); !equal(now, was[i]) {
				t.Errorf("Parse(%q) changed definition %d", s, i)
			}
		}
	}
}

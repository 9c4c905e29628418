package closure

import (
	"math"
	"slices"
	"strings"
	"testing"

	"spool/api"
	"spool/bits"
	"spool/deriv"
	"spool/regex"
	"spool/thompson"
)

// P22.1, P22.2: the example; at the end of ab it is alive by the empty text.
func TestExample(t *testing.T) {
	n := one(t, "ab")
	for text, want := range map[string]bool{"": true, "a": true, "ab": true, "b": false, "aa": false, "aba": false, "bb": false, "ba": false} {
		if is := Alive(n, through(n, text)); is != want {
			t.Errorf("behind %q: Alive %v", text, is)
		}
	}
	if k := Best(n, through(n, "ab")); k != 3 {
		t.Errorf("behind ab: Best %d", k)
	}
}

// P22.1: Start, by hand.
func TestStart(t *testing.T) {
	for i, x := range []struct {
		n    api.Nfa
		want []int
	}{
		{nfa(still()), []int{0}},
		{nfa(tags(0)), []int{0}},
		{nfa(eps(0)), []int{0}},
		{nfa(eps(0, 0, 0)), []int{0}},
		{nfa(eps(1), still()), []int{0, 1}},
		{nfa(still(), eps(0)), []int{0}},
		{nfa(by(0, 255, 1), still()), []int{0}},
		{nfa(api.NState{}), []int{0}},
		{nfa(eps(2), still(), eps(3, 4), still(), eps(2, 0)), []int{0, 2, 3, 4}},
		{nfa(eps(3), eps(0), eps(1), eps(2)), []int{0, 1, 2, 3}},
		{nfa(eps(1), by('a', 'a', 2), eps(0)), []int{0, 1}},
		{api.Nfa{Start: 1, States: []api.NState{still(), still()}}, []int{1}},
		{api.Nfa{Start: 1, States: []api.NState{still(), eps(2), eps(1)}}, []int{1, 2}},
		{api.Nfa{Start: 2, States: []api.NState{eps(1), still(), eps(0)}}, []int{0, 1, 2}},
	} {
		s, e := Start(x.n)
		isSet(t, "Start", x.n, s, e, x.want)
		if want := (model{x.n}).byNothing([]int{x.n.Start}); !slices.Equal(want, x.want) {
			t.Errorf("%d: the model tells %v", i, want)
		}
	}
}

// ways is an automaton in which one goes from 0 by nothing to 1, 2 and 3, from 3 by a and b to 4, by nothing to 5, and from 5 by b to 0.
func ways() api.Nfa {
	return nfa(eps(1), eps(2, 0), eps(3), by('a', 'b', 4), eps(5), by('b', 'b', 0))
}

// P22.1: Close, by hand, with sets of all rooms: numbers for which there is no state lead nowhere, and stay; states for which there is no room are gone through.
func TestClose(t *testing.T) {
	for _, x := range []struct {
		room int
		l    []int
		want []int
	}{
		{6, nil, nil},
		{6, []int{0}, []int{0, 1, 2, 3}},
		{6, []int{1}, []int{0, 1, 2, 3}},
		{6, []int{2}, []int{2, 3}},
		{6, []int{3}, []int{3}},
		{6, []int{4}, []int{4, 5}},
		{6, []int{5, 2}, []int{2, 3, 5}},
		{6, []int{4, 2}, []int{2, 3, 4, 5}},
		{6, []int{0, 1, 2, 3, 4, 5}, []int{0, 1, 2, 3, 4, 5}},
		{0, nil, nil},
		{1, []int{0}, []int{0}},
		{2, []int{1}, []int{0, 1}},
		{3, []int{1}, []int{0, 1, 2}},
		{4, []int{2}, []int{2, 3}},
		{5, []int{4}, []int{4}},
		{7, []int{4, 6}, []int{4, 5, 6}},
		{7, []int{6}, []int{6}},
		{64, []int{6, 7, 63}, []int{6, 7, 63}},
		{65, []int{64, 2}, []int{2, 3, 64}},
		{65536, []int{65535, 4096, 1}, []int{0, 1, 2, 3, 4096, 65535}},
	} {
		s := bits.Of(x.room, x.l...)
		if e := Close(ways(), s); e != api.OK || !slices.Equal(s.All(), x.want) || s.Room() != x.room {
			t.Errorf("Close of %v, room %d: %v, %d", x.l, x.room, s.All(), e)
		}
		if e := Close(ways(), s); e != api.OK || !slices.Equal(s.All(), x.want) {
			t.Errorf("Close of %v, room %d, a second time: %v, %d", x.l, x.room, s.All(), e)
		}
	}
	// From 0 one comes to 1 by way of 3 and 2 alone.
	far := nfa(eps(3), still(), eps(1), eps(2))
	for room, want := range [][]int{nil, {0}, {0, 1}, {0, 1, 2}, {0, 1, 2, 3}, {0, 1, 2, 3}} {
		s := bits.Of(room, 0)
		if e := Close(far, s); e != api.OK || !slices.Equal(s.All(), want) {
			t.Errorf("Close by a way without room, room %d: %v, %d", room, s.All(), e)
		}
	}
	var s bits.Set
	if e := Close(far, s); e != api.OK || s.Room() != 0 || len(s.All()) != 0 {
		t.Errorf("Close of a set that nobody made: %v, %d", s.All(), e)
	}
}

// P22.1: a set that was handed on is closed wherever it is.
func TestCloseHandedOn(t *testing.T) {
	s := bits.Of(6, 4)
	also, own := s, s.Copy()
	if e := Close(ways(), s); e != api.OK || !also.Has(5) || own.Has(5) {
		t.Errorf("%d; by another name %v, a copy %v", e, also.All(), own.All())
	}
}

// P22.1: Step, by hand: it goes by a byte from what is in the set, and from nothing else.
func TestStep(t *testing.T) {
	for _, x := range []struct {
		room int
		l    []int
		c    byte
		want []int
	}{
		{6, nil, 'a', nil},
		{6, []int{3}, 'a', []int{4, 5}},
		{6, []int{3}, 'b', []int{4, 5}},
		{6, []int{3}, 'c', nil},
		{6, []int{3}, '`', nil},
		{6, []int{5}, 'b', []int{0, 1, 2, 3}},
		{6, []int{5}, 'a', nil},
		{6, []int{3, 5}, 'b', []int{0, 1, 2, 3, 4, 5}},
		{6, []int{3, 5}, 'a', []int{4, 5}},
		{6, []int{0, 1, 2, 4}, 'a', nil},
		{6, []int{0, 1, 2, 4}, 'b', nil},
		{0, nil, 'a', nil},
		{4, []int{3}, 'b', []int{4, 5}},
		{1, []int{0}, 'b', nil},
		{9, []int{3, 6, 8}, 'a', []int{4, 5}},
		{9, []int{6, 7, 8}, 'a', nil},
		{65536, []int{65535, 5, 64}, 'b', []int{0, 1, 2, 3}},
	} {
		s, e := Step(ways(), bits.Of(x.room, x.l...), x.c)
		isSet(t, "Step", ways(), s, e, x.want)
	}
	s, e := Step(ways(), bits.Set{}, 'a')
	isSet(t, "Step", ways(), s, e, nil)
}

// P22.1: each byte, by ranges from each edge to each other; a state that goes by none goes by none.
func TestStepBytes(t *testing.T) {
	for _, lo := range bytes() {
		for _, hi := range bytes() {
			if hi < lo {
				continue
			}
			n := nfa(by(lo, hi, 1), still())
			for c := range 256 {
				var want []int
				if lo <= c && c <= hi {
					want = []int{1}
				}
				s, e := Step(n, bits.Of(2, 0, 1), byte(c))
				isSet(t, "Step", n, s, e, want)
			}
		}
	}
}

// P22.2: Best, by hand.
func TestBest(t *testing.T) {
	n := nfa(tags(5), tags(0), still(), tags(math.MaxInt), tags(5), eps(1), by('a', 'a', 1))
	for _, x := range []struct {
		room int
		l    []int
		want int
	}{
		{7, nil, -1},
		{7, []int{0}, 5},
		{7, []int{1}, 0},
		{7, []int{2}, -1},
		{7, []int{3}, math.MaxInt},
		{7, []int{0, 1}, 0},
		{7, []int{0, 2}, 5},
		{7, []int{0, 3}, 5},
		{7, []int{2, 3}, math.MaxInt},
		{7, []int{3, 4}, 5},
		{7, []int{2, 5, 6}, -1},
		{7, []int{0, 1, 2, 3, 4, 5, 6}, 0},
		{0, nil, -1},
		{3, []int{0, 2}, 5},
		{9, []int{7, 8}, -1},
		{9, []int{7, 8, 4}, 5},
		{65536, []int{65535, 64, 3}, math.MaxInt},
	} {
		if k := Best(n, bits.Of(x.room, x.l...)); k != x.want {
			t.Errorf("Best of %v, room %d: %d", x.l, x.room, k)
		}
	}
	if k := Best(n, bits.Set{}); k != -1 {
		t.Errorf("Best of a set that nobody made: %d", k)
	}
}

// P22.2: tags from the whole range, two of them in each order.
func TestBestTags(t *testing.T) {
	for _, a := range numbers() {
		for _, b := range numbers() {
			if a < -1 || b < -1 {
				continue
			}
			n := nfa(still(), tags(a), tags(b))
			want := min(a, b)
			if want == -1 {
				want = max(a, b)
			}
			if k := Best(n, bits.Of(3, 0, 1, 2)); k != want {
				t.Errorf("Best of %d, %d: %d", a, b, k)
			}
			if is := Alive(n, bits.Of(3, 1, 2)); is != (want != -1) {
				t.Errorf("Alive of %d, %d: %v", a, b, is)
			}
		}
	}
}

// P22.2: Alive, by hand: by nothing, by bytes, by both, and by ways that come back.
func TestAlive(t *testing.T) {
	n := nfa(eps(1), by(0, 0, 2), eps(3), tags(0), eps(5), by(255, 255, 4), still(), by('a', 'z', 7), eps(6, 4, 0))
	for i, want := range []bool{true, true, true, true, false, false, false, false, true, false} {
		for _, room := range []int{i + 1, 9, 10, 70, 65536} {
			s := bits.Of(room, i)
			if is := Alive(n, s); is != want {
				t.Errorf("Alive of %v, room %d: %v", s.All(), room, is)
			}
		}
		if is := Alive(n, bits.Of(20, i, 4, 9, 19)); is != want {
			t.Errorf("Alive of %d and some: %v", i, is)
		}
	}
	if Alive(n, bits.Set{}) || Alive(n, bits.New(9)) || Alive(n, bits.Of(9, 4, 5, 6, 7)) || !Alive(n, bits.Of(9, 0, 1, 2, 3, 4, 5, 6, 7, 8)) {
		t.Errorf("Alive of few and of all")
	}
}

// P22.1, P22.2, P22.3: all automata of two states that do some things, with all sets of rooms about theirs.
func TestSmall(t *testing.T) {
	var l []api.NState
	for _, to := range [][]int{nil, {0}, {1}, {0, 1}} {
		for _, tag := range []int{-1, 0, 1} {
			l = append(l, api.NState{Lo: -1, Hi: -1, To: -1, Eps: to, Tag: tag})
			for k := range 2 {
				l = append(l, api.NState{Lo: 'a', Hi: 'a', To: k, Eps: to, Tag: tag}, api.NState{Lo: 0, Hi: 255, To: k, Eps: to, Tag: tag})
			}
		}
	}
	for _, a := range l {
		for _, b := range l {
			for first := range 2 {
				n := api.Nfa{Start: first, States: []api.NState{a, b}}
				started(t, n, "", "a", "b", "aa", "ab", "ba", "aaa", "aba", "bbbb")
			}
			for room := range 4 {
				for in := range 1 << room {
					s := bits.New(room)
					for i := range room {
						if in>>i&1 == 1 {
							s.Add(i)
						}
					}
					held(t, nfa(a, b), s)
				}
			}
		}
	}
}

// P22.1, P22.2, P22.3: automata of many kinds, and sets of many rooms.
func TestMany(t *testing.T) {
	state := uint64(22)
	for i := range 6000 {
		states := 1 + next(&state, 9)
		if i%20 == 0 {
			states = 60 + next(&state, 80)
		}
		n := some(&state, states)
		if !thompson.Right(n) {
			t.Fatalf("no automaton: %v", n)
		}
		for range 3 {
			room := []int{states, states, states, states - 1, states + 1, next(&state, states+1), states + 64, 200}[next(&state, 8)]
			held(t, n, bits.Of(room, picked(&state, next(&state, 4), room+1)...))
		}
		var texts []string
		for range 6 {
			var text []byte
			for _, k := range picked(&state, next(&state, 9), 10) {
				text = append(text, byte(bytes()[k]))
			}
			texts = append(texts, string(text))
		}
		started(t, n, texts...)
	}
}

// below are all texts of at most so many of some bytes.
func below(most int, bytes string) []string {
	all, last := []string{""}, []string{""}
	for range most {
		var more []string
		for _, s := range last {
			for i := range len(bytes) {
				more = append(more, s+bytes[i:i+1])
			}
		}
		all, last = append(all, more...), more
	}
	return all
}

// P22.3: where Alive is not, no text that goes on is told a tag; where it is, one is, of fewer bytes than there are states.
func TestAliveTells(t *testing.T) {
	state := uint64(223)
	for range 400 {
		n := some(&state, 1+next(&state, 5))
		for i := range n.States {
			if n.States[i].Lo != -1 {
				n.States[i].Lo, n.States[i].Hi = []int{'a', 'b', 'a'}[i%3], []int{'a', 'b', 'b'}[i%3]
			}
		}
		for i := range n.States {
			s := bits.Of(len(n.States), i)
			// By no text states come by nothing, too.
			Close(n, s)
			told := false
			for _, text := range below(len(n.States)-1, "ab") {
				now := s
				for k := range len(text) {
					now, _ = Step(n, now, text[k])
				}
				told = told || Best(n, now) != -1
			}
			if is := Alive(n, bits.Of(len(n.States), i)); is != told {
				t.Fatalf("Alive of %v from %d: %v", n, i, is)
			}
		}
	}
}

// P22.2, P22.3: expressions: Run tells what is told by what is left of their trees, and so does one that goes step by step.
func TestExpressions(t *testing.T) {
	all := append(below(4, "abc"), "é", "éa", "aé", "\xc3", "\xa9", "\xff", "\x00", "abab", "ababab", "aaaaaaaa", "cccccc", "é\u20ac", "abcabcabc")
	for _, x := range []string{"()", "a", "ab", "a|b", "a*", "(a|b)*abb?", "a{2,3}", "(ab){2,}", "(a*b*)*c", "(a?){3}c*", "[^a]*", "[é\u20ac]|a[bc]*", `[\u{d800}]a`, "(()|a)*b", "((a|b){1,2}c?)+"} {
		u, _ := regex.Parse(x, nil, false)
		n := one(t, x)
		started(t, n, all...)
		for _, text := range all {
			want := -1
			if is, _ := deriv.Matches(u, text); is {
				want = 3
			}
			if k, e := Run(n, text); e != api.OK || k != want {
				t.Errorf("Run of %s, %q: %d, %d", x, text, k, e)
			}
			if is := Alive(n, through(n, text)); is != leads(t, u, text) {
				t.Errorf("Alive of %s behind %q: %v", x, text, is)
			}
		}
	}
}

// through is the set to which one comes by a text.
func through(n api.Nfa, text string) bits.Set {
	s, _ := Start(n)
	for i := range len(text) {
		s, _ = Step(n, s, text[i])
	}
	return s
}

// leads tells whether a tree has a text that begins so, of those that a little is put behind.
func leads(t *testing.T, u api.Tree, text string) bool {
	for _, more := range append(below(3, "abc"), "\xa9", "\x80", "\x82\xac", "\x80\x80", "\x80\x80\x80", "\x80\x80c", "abab") {
		is, e := deriv.Matches(u, text+more)
		if e != api.OK {
			t.Fatalf("Matches: %d", e)
		}
		if is {
			return true
		}
	}
	return false
}

// P22.2: modes: of a text the first rule is told.
func TestModes(t *testing.T) {
	s := api.Spec{Modes: []string{"m", "n"}}
	for i, x := range []string{"if|ab", "[a-z]+", "()", "ab|a{2,3}", "[^a]*", "é"} {
		u, _ := regex.Parse(x, nil, false)
		s.Rules = append(s.Rules, api.Rule{Mode: i % 2, Tree: u})
	}
	for m := range s.Modes {
		n, _ := thompson.Mode(s, m)
		started(t, n, below(4, "abf")...)
		for _, text := range append(below(4, "aéb"), "if", "iff", "é", "\xff") {
			want := -1
			for i, r := range s.Rules {
				if is, _ := deriv.Matches(r.Tree, text); is && r.Mode == m && want == -1 {
					want = i
				}
			}
			if k, e := Run(n, text); e != api.OK || k != want {
				t.Errorf("Run of mode %d, %q: %d, %d, not %d", m, text, k, e, want)
			}
		}
	}
}

// wrong are automata of so many states that may not be.
func wrong(states int) []api.Nfa {
	var l []api.Nfa
	for _, i := range []int{0, states / 2, states - 1} {
		for _, change := range []func(n *api.Nfa){
			func(n *api.Nfa) { n.Start = -1 },
			func(n *api.Nfa) { n.Start = states },
			func(n *api.Nfa) { n.Start = math.MinInt },
			func(n *api.Nfa) { n.States[i].Lo = -2 },
			func(n *api.Nfa) { n.States[i].Lo = 256 },
			func(n *api.Nfa) { n.States[i].Hi = 256 },
			func(n *api.Nfa) { n.States[i].Lo, n.States[i].Hi = 5, 4 },
			func(n *api.Nfa) { n.States[i].Lo = -1 },
			func(n *api.Nfa) { n.States[i].To = -1 },
			func(n *api.Nfa) { n.States[i].To = states },
			func(n *api.Nfa) { n.States[i].To = math.MaxInt },
			func(n *api.Nfa) { n.States[i].Eps = []int{0, -1} },
			func(n *api.Nfa) { n.States[i].Eps = []int{states} },
			func(n *api.Nfa) { n.States[i].Eps = []int{math.MinInt, math.MaxInt} },
			func(n *api.Nfa) { n.States[i].Tag = -2 },
		} {
			n := many(states)
			change(&n)
			l = append(l, n)
		}
	}
	return l
}

// many is an automaton of so many states that may be, if there are not too many, each of which has a tag.
func many(states int) api.Nfa {
	return nfa(slices.Repeat([]api.NState{{Lo: 'a', Hi: 'b', To: 0, Tag: 7}}, states)...)
}

// refused fails where a call does anything with an automaton, or doesn't tell that error.
func refused(t *testing.T, n api.Nfa, want api.Errno) {
	t.Helper()
	room := []int{0, 1, 3, len(n.States), len(n.States) + 1, 65536}
	sets := []bits.Set{{}}
	for _, r := range room {
		sets = append(sets, bits.New(r), bits.Of(r, 0, 2, len(n.States)/2, len(n.States)))
	}
	if s, e := Start(n); e != want || s.Room() != 0 || len(s.All()) != 0 {
		t.Errorf("Start of %d states: room %d, %v, %d, not %d", len(n.States), s.Room(), s.All(), e, want)
	}
	for _, text := range []string{"", "a", "ab", "\xff"} {
		if k, e := Run(n, text); e != want || k != -1 {
			t.Errorf("Run of %d states, %q: %d, %d, not %d", len(n.States), text, k, e, want)
		}
	}
	for _, s := range sets {
		l := s.All()
		if e := Close(n, s); e != want || !slices.Equal(s.All(), l) {
			t.Errorf("Close of %d states, %v: %v, %d, not %d", len(n.States), l, s.All(), e, want)
		}
		if to, e := Step(n, s, 'a'); e != want || to.Room() != 0 || len(to.All()) != 0 {
			t.Errorf("Step of %d states, %v: room %d, %v, %d, not %d", len(n.States), l, to.Room(), to.All(), e, want)
		}
		if k := Best(n, s); k != -1 {
			t.Errorf("Best of %d states, %v: %d", len(n.States), l, k)
		}
		if Alive(n, s) {
			t.Errorf("Alive of %d states, %v", len(n.States), l)
		}
	}
}

// P22.1, P22.2: automata that may not be, and those of too many states, whatever else they are.
func TestErrors(t *testing.T) {
	refused(t, api.Nfa{}, api.ErrForm)
	refused(t, api.Nfa{States: []api.NState{}, Start: -1}, api.ErrForm)
	for _, states := range []int{1, 2, 70, api.MaxNfa} {
		for _, n := range wrong(states) {
			refused(t, n, api.ErrForm)
		}
	}
	for _, states := range []int{api.MaxNfa + 1, 65536, 65537, 70000} {
		refused(t, many(states), api.ErrBig)
	}
	for _, n := range wrong(api.MaxNfa + 1) {
		refused(t, n, api.ErrBig)
	}
	n := many(api.MaxNfa)
	started(t, n, "", "a", "c", "ab")
	held(t, n, bits.Of(api.MaxNfa, 0, api.MaxNfa-1))
	for _, n := range wrong(3) {
		// What is wrong is wrong, though nobody comes to it.
		n.States = append(n.States, tags(0))
		if n.Start >= 0 && n.Start < 3 {
			n.Start = 3
		}
		if !thompson.Right(n) {
			refused(t, n, api.ErrForm)
		}
	}
}

// chain is an automaton of as many states as may be, each of which goes on to the next one; the last one has a tag.
func chain(down bool) api.Nfa {
	n := api.Nfa{States: make([]api.NState, api.MaxNfa)}
	last := api.MaxNfa - 1
	for i := range n.States {
		n.States[i] = eps(min(i+1, last))
		if down {
			n.States[i] = eps(max(i-1, 0))
		}
	}
	if down {
		n.Start, last = last, 0
	}
	n.States[last].Tag = 9
	return n
}

// P22.1, P22.2: ways as long as there may be, and as many as there may be.
func TestLong(t *testing.T) {
	for _, down := range []bool{false, true} {
		n := chain(down)
		s, e := Start(n)
		if e != api.OK || s.Count() != api.MaxNfa || s.Room() != api.MaxNfa || Best(n, s) != 9 || !Alive(n, bits.Of(api.MaxNfa, n.Start)) {
			t.Errorf("a long way, down %v: %d states, %d", down, s.Count(), e)
		}
		c := bits.Of(api.MaxNfa, n.Start)
		if e := Close(n, c); e != api.OK || !c.Same(s) {
			t.Errorf("Close of a long way, down %v: %d, %d", down, c.Count(), e)
		}
	}
	all := make([]int, api.MaxNfa)
	for i := range all {
		all[i] = i
	}
	n := nfa(slices.Repeat([]api.NState{{Lo: 'a', Hi: 'a', To: 1, Eps: all, Tag: 2}}, api.MaxNfa)...)
	s, e := Start(n)
	if e != api.OK || s.Count() != api.MaxNfa {
		t.Errorf("many ways: %d, %d", s.Count(), e)
	}
	if k, e := Run(n, "aaa"); e != api.OK || k != 2 {
		t.Errorf("Run by many ways: %d, %d", k, e)
	}
	if k, e := Run(n, "aab"); e != api.OK || k != -1 {
		t.Errorf("Run by many ways that end: %d, %d", k, e)
	}
}

// P22.2: long texts, that are told a tag, and of which nothing comes any more.
func TestLongTexts(t *testing.T) {
	n := one(t, "(a|bc)*d?")
	for _, x := range []struct {
		text string
		want int
	}{
		{strings.Repeat("abc", 30000), 3},
		{strings.Repeat("abc", 30000) + "d", 3},
		{strings.Repeat("abc", 30000) + "dd", -1},
		{strings.Repeat("abc", 30000) + "b", -1},
		{"b" + strings.Repeat("abc", 30000), -1},
		{strings.Repeat("x", 1<<20), -1},
	} {
		if k, e := Run(n, x.text); e != api.OK || k != x.want {
			t.Errorf("Run of %d bytes: %d, %d", len(x.text), k, e)
		}
	}
}

// spare is a list with spare room, in which something stands.
func spare[T any](l []T, what T) []T {
	return append(append(make([]T, 0, len(l)+3), l...), what, what, what)[:len(l)]
}

// roomy is an automaton whose lists have spare room.
func roomy() api.Nfa {
	n := nfa(ways().States...)
	n.States[3].Tag = 4
	for i := range n.States {
		n.States[i].Eps = spare(n.States[i].Eps, 77)
	}
	n.States = spare(n.States, tags(66))
	return n
}

// alike tells whether two states are the same, number by number, and what stands behind their lists.
func alike(x, y api.NState) bool {
	return x.Lo == y.Lo && x.Hi == y.Hi && x.To == y.To && x.Tag == y.Tag && slices.Equal(x.Eps[:cap(x.Eps)], y.Eps[:cap(y.Eps)])
}

// P22.1, P22.2: what is handed in is not changed, but for the set of a Close; what is handed out is a set of its own.
func TestMemory(t *testing.T) {
	n, want := roomy(), roomy()
	in := bits.Of(9, 3, 5, 7)
	for range 2 {
		a, _ := Start(n)
		b, _ := Start(n)
		c, _ := Step(n, in, 'b')
		d, _ := Step(n, in, 'b')
		Best(n, in)
		Alive(n, in)
		Run(n, "abba")
		own := bits.Of(6, 4)
		Close(n, own)
		if !slices.Equal(in.All(), []int{3, 5, 7}) || in.Room() != 9 {
			t.Errorf("a set was changed: %v", in.All())
		}
		if !slices.EqualFunc(n.States[:cap(n.States)], want.States[:cap(want.States)], alike) || n.Start != want.Start || len(n.States) != len(want.States) {
			t.Errorf("an automaton was changed: %v", n)
		}
		a.Drop(0)
		c.Drop(1)
		own.Add(0)
		if !b.Has(0) || !d.Has(1) || !a.Has(1) || !c.Has(0) || in.Has(0) {
			t.Errorf("answers share memory: %v, %v, %v, %v", a.All(), b.All(), c.All(), d.All())
		}
	}
	// A byte by which one comes to just what is in the set already.
	loop := nfa(by('a', 'a', 0))
	s := bits.Of(1, 0)
	to, _ := Step(loop, s, 'a')
	to.Drop(0)
	if !s.Has(0) {
		t.Errorf("Step tells the set that was handed in")
	}
	s.Drop(0)
	to, _ = Step(loop, s, 'a')
	if s.Add(0); to.Has(0) {
		t.Errorf("Step tells the set that was handed in")
	}
}

// P22.1: a set that is told stays as it is, whatever comes of the automaton behind.
func TestTold(t *testing.T) {
	n := ways()
	s, _ := Start(n)
	to, _ := Step(n, s, 'a')
	n.States[0].Eps[0], n.States[4].Eps[0], n.States[3].To = 5, 0, 2
	if !slices.Equal(s.All(), []int{0, 1, 2, 3}) || !slices.Equal(to.All(), []int{4, 5}) {
		t.Errorf("what was told has changed: %v, %v", s.All(), to.All())
	}
	if s, _ := Start(n); !slices.Equal(s.All(), []int{0, 5}) {
		t.Errorf("Start hangs on what was handed in ahead: %v", s.All())
	}
}

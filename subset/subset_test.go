package subset

import (
	"math"
	"slices"
	"strings"
	"testing"

	"spool/api"
	"spool/closure"
	"spool/deriv"
	"spool/thompson"
)

// from are 256 numbers: those of some stretches, each told by its first byte and its number.
func from(n ...int) []int {
	l := make([]int, 256)
	for i := 0; i+1 < len(n); i += 2 {
		for b := n[i]; b < 256; b++ {
			l[b] = n[i+1]
		}
	}
	return l
}

// ab is the automaton of the example, whose tag is 3.
func ab() api.Dfa {
	return api.Dfa{
		Class: from(0, 0, 'a', 1, 'b', 2, 'c', 0), Width: 3,
		Next: [][]int{{-1, 1, -1}, {-1, -1, 2}, {-1, -1, -1}},
		Tag:  []int{-1, -1, 3},
	}
}

// P24.1, P24.2: the example.
func TestExample(t *testing.T) {
	d, e := Build(one(t, "ab"), api.MaxDfa)
	if e != api.OK {
		t.Fatalf("Build: %d", e)
	}
	isOne(t, "ab", d, ab())
	for text, want := range map[string]int{"": -1, "a": -1, "ab": 3, "abb": -1, "aba": -1, "b": -1, "bb": -1, "ba": -1, "AB": -1, "ab\x00": -1, "\xff": -1} {
		if k := Run(d, text); k != want {
			t.Errorf("Run of %q: %d", text, k)
		}
	}
	for c := range 256 {
		for state := -2; state < 5; state++ {
			want := -1
			if state == 0 && c == 'a' || state == 1 && c == 'b' {
				want = state + 1
			}
			if k := To(d, state, byte(c)); k != want {
				t.Errorf("To of %d, %d: %d", state, c, k)
			}
		}
	}
}

// P24.1: automata that may be, by hand.
func TestRight(t *testing.T) {
	for i, d := range []api.Dfa{
		ab(),
		{Class: from(), Width: 1, Start: -1},
		{Class: from(), Width: 1, Start: -1, Next: [][]int{}, Tag: []int{}},
		{Class: from(5, 1), Width: 2, Start: -1},
		{Class: from(), Width: 1, Next: [][]int{{0}}, Tag: []int{0}},
		{Class: from(), Width: 1, Next: [][]int{{-1}}, Tag: []int{-1}, Start: -1},
		{Class: from(), Width: 1, Next: [][]int{{1}, {0}}, Tag: []int{math.MaxInt, -1}, Start: 1},
		{Class: from(255, 1), Width: 2, Next: [][]int{{1, 1}, {-1, 0}}, Tag: []int{0, 0}, Start: 0},
	} {
		if !Right(d) || !right(d) {
			t.Errorf("%d: not Right", i)
		}
	}
}

// P24.1: automata that may not be, by hand; they lead nowhere, and tell nothing.
func TestNotRight(t *testing.T) {
	row := []int{-1, 1, -1}
	for i, change := range []func(d *api.Dfa){
		func(d *api.Dfa) { *d = api.Dfa{} },
		func(d *api.Dfa) { *d = api.Dfa{Start: -1} },
		func(d *api.Dfa) { *d = api.Dfa{Class: from(), Width: 1} },
		func(d *api.Dfa) { *d = api.Dfa{Class: from(), Start: -1} },
		func(d *api.Dfa) { *d = api.Dfa{Class: from(), Width: 1, Start: -2} },
		func(d *api.Dfa) { *d = api.Dfa{Class: from(), Width: 256, Start: -1} },
		func(d *api.Dfa) { d.Class = nil },
		func(d *api.Dfa) { d.Class = []int{} },
		func(d *api.Dfa) { d.Class, d.Width = nil, 0 },
		func(d *api.Dfa) { d.Class, d.Width, d.Next = nil, 0, make([][]int, 3) },
		func(d *api.Dfa) { d.Class = d.Class[:255] },
		func(d *api.Dfa) { d.Class = append(d.Class, 0) },
		func(d *api.Dfa) { d.Class = append(d.Class, 3) },
		func(d *api.Dfa) { d.Class = from('a', 2, 'b', 1, 'c', 0) },
		func(d *api.Dfa) { d.Class = from('a', 1, 'b', 3, 'c', 0) },
		func(d *api.Dfa) { d.Class = from(0, 1, 'a', 0, 'b', 2, 'c', 1) },
		func(d *api.Dfa) { d.Class = from('a', 1) },
		func(d *api.Dfa) { d.Class = from('a', 1, 'b', 2, 'c', 3) },
		func(d *api.Dfa) { d.Width = 2 },
		func(d *api.Dfa) { d.Width = 4 },
		func(d *api.Dfa) { d.Width, d.Next = 2, [][]int{{-1, 1}, {-1, -1}, {-1, -1}} },
		func(d *api.Dfa) {
			d.Width, d.Next = 4, [][]int{append(row, -1), append(row, -1), append(row, -1)}
		},
		func(d *api.Dfa) { d.Next = nil },
		func(d *api.Dfa) { d.Tag = nil },
		func(d *api.Dfa) { d.Next = d.Next[:2] },
		func(d *api.Dfa) { d.Tag = d.Tag[:2] },
		func(d *api.Dfa) { d.Next = append(d.Next, row) },
		func(d *api.Dfa) { d.Tag = append(d.Tag, -1) },
		func(d *api.Dfa) { d.Next[0] = nil },
		func(d *api.Dfa) { d.Next[2] = nil },
		func(d *api.Dfa) { d.Next[1] = row[:2] },
		func(d *api.Dfa) { d.Next[2] = append(row, -1) },
		func(d *api.Dfa) { d.Next[0][1] = 3 },
		func(d *api.Dfa) { d.Next[2][2] = 3 },
		func(d *api.Dfa) { d.Next[2][2] = -2 },
		func(d *api.Dfa) { d.Tag[0] = -2 },
		func(d *api.Dfa) { d.Tag[2] = -2 },
		func(d *api.Dfa) { d.Start = 3 },
		func(d *api.Dfa) { d.Start = -2 },
	} {
		d := ab()
		change(&d)
		if Right(d) || right(d) {
			t.Errorf("%d: Right", i)
		}
		for _, state := range numbers() {
			for _, c := range []byte("\x00abc\xff") {
				if k := To(d, state, c); k != -1 {
					t.Errorf("%d: To of %d, %d: %d", i, state, c, k)
				}
			}
		}
		for _, text := range []string{"", "a", "ab", "\x00", "abc"} {
			if k := Run(d, text); k != -1 {
				t.Errorf("%d: Run of %q: %d", i, text, k)
			}
		}
	}
}

// P24.1: each number of an automaton, from the whole range.
func TestRightNumbers(t *testing.T) {
	state := uint64(7)
	for _, d := range []api.Dfa{ab(), dfa(&state, 1, 0), dfa(&state, 2, 1), dfa(&state, 5, 3), dfa(&state, 0, 1)} {
		for _, n := range places(&d) {
			was := *n
			for _, k := range append(numbers(), was-1, was+1, len(d.Next), len(d.Next)-1) {
				*n = k
				if is := Right(d); is != right(d) {
					t.Fatalf("%v: Right %v", d, is)
				}
				runs(t, d, "ab")
			}
			*n = was
		}
		for _, l := range lists(&d) {
			was := *l
			for length := range len(was) + 3 {
				*l = append(slices.Clone(was), 0, -1)[:length]
				if is := Right(d); is != right(d) {
					t.Fatalf("%v: Right %v", d, is)
				}
				runs(t, d, "ab")
			}
			*l = was
		}
	}
}

// P24.1: as many states as there may be, and one more.
func TestRightStates(t *testing.T) {
	for _, states := range []int{1, 2, 1023, 1024, 1025, 1026, 2048, 70000} {
		d := api.Dfa{Class: from('b', 1), Width: 2, Tag: make([]int, states), Start: states - 1}
		for i := range states {
			d.Next = append(d.Next, []int{-1, states - 1 - i})
			d.Tag[i] = i
		}
		is := states <= 1024
		if Right(d) != is || right(d) != is {
			t.Errorf("of %d states: Right %v", states, !is)
		}
		for _, state := range append(numbers(), states-1, states) {
			want := -1
			if is && state >= 0 && state < states {
				want = states - 1 - state
			}
			if k := To(d, state, 'b'); k != want {
				t.Errorf("of %d states: To of %d: %d, not %d", states, state, k, want)
			}
			if k := To(d, state, 'a'); k != -1 {
				t.Errorf("of %d states: To of %d by a: %d", states, state, k)
			}
		}
		for text, want := range map[string]int{"": states - 1, "b": 0, "bb": states - 1, "a": -1, "bba": -1} {
			if k := Run(d, text); is && k != want || !is && k != -1 {
				t.Errorf("of %d states: Run of %q: %d", states, text, k)
			}
		}
	}
}

// P24.1: To and Run of all kinds of automata.
func TestRuns(t *testing.T) {
	state := uint64(24)
	met := map[int]int{}
	for i := range 3000 {
		d := dfa(&state, i%9, next(&state, 9))
		if !Right(d) {
			t.Fatalf("%v: not Right", d)
		}
		for range 20 {
			met[runs(t, d, text(&state, next(&state, 8)))]++
		}
		for c := range 256 {
			if (c+i)%8 > 0 {
				continue
			}
			k := next(&state, 12) - 2
			if to := To(d, k, byte(c)); to != goes(d, k, byte(c)) {
				t.Fatalf("To of %v, %d, %d: %d", d, k, c, to)
			}
		}
		l := places(&d)
		*l[next(&state, len(l))] = numbers()[next(&state, len(numbers()))]
		if is := Right(d); is != right(d) {
			t.Fatalf("%v: Right %v", d, is)
		}
		runs(t, d, text(&state, 4))
	}
	for tag := -1; tag < 5; tag++ {
		if met[tag] < 1000 {
			t.Errorf("the tag %d was told %d times", tag, met[tag])
		}
	}
}

// P24.1: long texts, and such as lead to no state at their beginning, at their end or in between.
func TestRunLong(t *testing.T) {
	d := api.Dfa{Class: from('b', 1, 'c', 2), Width: 3, Next: [][]int{{0, 1, -1}, {1, 0, -1}}, Tag: []int{5, 6}}
	as := strings.Repeat("a", 1<<16)
	for text, want := range map[string]int{as: 5, as + "b": 6, as + "b" + as + "b": 5, "c" + as: -1, as + "c": -1, as + "c" + as: -1, "b" + as: 6} {
		if k := Run(d, text); k != want {
			t.Errorf("Run of %d bytes: %d, not %d", len(text), k, want)
		}
	}
	d.Start = -1
	for _, text := range []string{"", "a", "b", as} {
		if k := Run(d, text); k != -1 {
			t.Errorf("Run from no state of %d bytes: %d", len(text), k)
		}
	}
}

// unlike fails where two automata are the Same.
func unlike(t *testing.T, what string, a, b api.Dfa) {
	t.Helper()
	if Same(a, b) || Same(b, a) {
		t.Fatalf("%s: %v is the Same as %v", what, a, b)
	}
}

// alone fails where an automaton isn't the Same as itself, or is the Same as one of which one number, or one list, is another one.
func alone(t *testing.T, d api.Dfa) {
	t.Helper()
	own := copied(d)
	if !Same(d, own) || !Same(own, d) || !Same(d, d) {
		t.Fatalf("%v isn't the Same as itself", d)
	}
	for _, n := range places(&own) {
		was := *n
		for _, k := range []int{was - 1, was + 1, was ^ math.MinInt, was ^ 1<<32, was ^ 256} {
			*n = k
			unlike(t, "a number", d, own)
		}
		*n = was
	}
	for _, l := range lists(&own) {
		was := *l
		for _, other := range [][]int{append(slices.Clone(was), 0), append(slices.Clone(was), -1), append([]int{0}, was...), append(slices.Clone(was), make([]int, 256)...)} {
			*l = other
			unlike(t, "a longer list", d, own)
		}
		if len(was) > 0 {
			*l = was[:len(was)-1]
			unlike(t, "a shorter list", d, own)
		}
		*l = was
	}
	for _, row := range [][]int{nil, {}, {0}, {-1}} {
		more := own
		more.Next = append(slices.Clone(own.Next), row)
		unlike(t, "a row more", d, more)
	}
	if len(own.Next) > 0 {
		own.Next = own.Next[:len(own.Next)-1]
		unlike(t, "a row less", d, own)
	}
}

// P24.1: Same of automata that may be.
func TestSame(t *testing.T) {
	state := uint64(5)
	alone(t, ab())
	for i := range 300 {
		alone(t, dfa(&state, i%7, next(&state, 5)))
	}
	alone(t, dfa(&state, 3, 600))
}

// P24.1: Same of automata that may not be, too: lists of all lengths, and rows with numbers that are nowhere else.
func TestSameOfAny(t *testing.T) {
	alone(t, api.Dfa{})
	for _, length := range []int{0, 1, 2, 63, 64, 65, 127, 128, 129, 255, 256, 257, 258, 511, 512, 513, 767, 768, 769} {
		var l []int
		for i := range length {
			l = append(l, i*i*77777%1000003-5)
		}
		alone(t, api.Dfa{Class: l, Start: -9})
		alone(t, api.Dfa{Tag: l, Width: -7})
		alone(t, api.Dfa{Next: [][]int{{3}, l, {}}})
		alone(t, api.Dfa{Class: make([]int, length), Tag: make([]int, length), Next: [][]int{make([]int, length)}})
	}
}

// P24.1: lists of nothing are the same, nil or not; where rows begin and end is not the same.
func TestSameLists(t *testing.T) {
	for _, same := range [][2]api.Dfa{
		{{}, {Class: []int{}, Next: [][]int{}, Tag: []int{}}},
		{{Next: [][]int{nil, {1}}}, {Next: [][]int{{}, {1}}}},
		{{Class: from(), Width: 1, Start: -1}, {Class: from(), Width: 1, Start: -1, Next: [][]int{}, Tag: []int{}}},
	} {
		if !Same(same[0], same[1]) || !Same(same[1], same[0]) {
			t.Errorf("%v isn't the Same as %v", same[0], same[1])
		}
	}
	for _, l := range [][2]api.Dfa{
		{{Next: [][]int{{1, 2}, {3}}}, {Next: [][]int{{1}, {2, 3}}}},
		{{Next: [][]int{{1, 2}}}, {Next: [][]int{{1}, {2}}}},
		{{Next: [][]int{{1}, {2}}}, {Next: [][]int{{2}, {1}}}},
		{{Next: [][]int{{1}, {}}}, {Next: [][]int{{}, {1}}}},
		{{Class: []int{1}}, {Tag: []int{1}}},
		{{Width: 1}, {Start: 1}},
		{{Next: [][]int{{1}}}, {Tag: []int{1}}},
		{{Class: []int{1, 2}}, {Class: []int{2, 1}}},
	} {
		unlike(t, "by hand", l[0], l[1])
	}
}

// P24.2: by hand: classes are of all states' ranges, those that are never come to as well; states are numbered as they are met, by class; what leads to nothing is -1, what leads to what has no tag is not.
func TestBuild(t *testing.T) {
	abc := from('a', 1, 'b', 2, 'c', 3, 'd', 0)
	for i, x := range []struct {
		n    api.Nfa
		want api.Dfa
	}{
		{nfa(still()), api.Dfa{Class: from(), Width: 1, Next: [][]int{{-1}}, Tag: []int{-1}}},
		{nfa(tags(0)), api.Dfa{Class: from(), Width: 1, Next: [][]int{{-1}}, Tag: []int{0}}},
		{nfa(by(0, 255, 0)), api.Dfa{Class: from(), Width: 1, Next: [][]int{{0}}, Tag: []int{-1}}},
		{nfa(by(0, 255, 1), tags(4)), api.Dfa{Class: from(), Width: 1, Next: [][]int{{1}, {-1}}, Tag: []int{-1, 4}}},
		{nfa(by(0, 0, 1), tags(4)), api.Dfa{Class: from(1, 1), Width: 2, Next: [][]int{{1, -1}, {-1, -1}}, Tag: []int{-1, 4}}},
		{nfa(by(255, 255, 1), tags(4)), api.Dfa{Class: from(255, 1), Width: 2, Next: [][]int{{-1, 1}, {-1, -1}}, Tag: []int{-1, 4}}},
		{nfa(still(), by('a', 'z', 1)), api.Dfa{Class: from('a', 1, '{', 0), Width: 2, Next: [][]int{{-1, -1}}, Tag: []int{-1}}},
		{api.Nfa{Start: 1, States: []api.NState{tags(2), by('a', 'z', 0)}}, api.Dfa{Class: from('a', 1, '{', 0), Width: 2, Next: [][]int{{-1, 1}, {-1, -1}}, Tag: []int{-1, 2}}},
		// c is a state's first way, but a is the first class.
		{nfa(eps(1, 2, 3), by('c', 'c', 4), by('b', 'b', 5), by('a', 'a', 6), tags(4), tags(5), tags(6)), api.Dfa{Class: abc, Width: 4, Next: [][]int{{-1, 1, 2, 3}, {-1, -1, -1, -1}, {-1, -1, -1, -1}, {-1, -1, -1, -1}}, Tag: []int{-1, 6, 5, 4}}},
		// All states that 0 leads to are numbered ahead of those that come of the first of them.
		{nfa(eps(1, 2), by('a', 'a', 3), by('b', 'b', 4), by('c', 'c', 5), by('a', 'a', 6), tags(1), tags(2)), api.Dfa{Class: abc, Width: 4, Next: [][]int{{-1, 1, 2, -1}, {-1, -1, -1, 3}, {-1, 4, -1, -1}, {-1, -1, -1, -1}, {-1, -1, -1, -1}}, Tag: []int{-1, -1, -1, 1, 2}}},
		// By a one comes to two states, of which one has the lesser tag; they are another set than each alone.
		{nfa(eps(1, 2, 3), by('a', 'b', 4), by('a', 'a', 5), by('c', 'c', 5), tags(8), tags(7)), api.Dfa{Class: abc, Width: 4, Next: [][]int{{-1, 1, 2, 3}, {-1, -1, -1, -1}, {-1, -1, -1, -1}, {-1, -1, -1, -1}}, Tag: []int{-1, 7, 8, 7}}},
		// By ways that come back.
		{nfa(by('a', 'a', 1), eps(0)), api.Dfa{Class: from('a', 1, 'b', 0), Width: 2, Next: [][]int{{-1, 1}, {-1, 1}}, Tag: []int{-1, -1}}},
		{nfa(by('a', 'a', 1), by('a', 'a', 0)), api.Dfa{Class: from('a', 1, 'b', 0), Width: 2, Next: [][]int{{-1, 1}, {-1, 0}}, Tag: []int{-1, -1}}},
		{nfa(eps(1, 1, 0), eps(0), tags(0)), api.Dfa{Class: from(), Width: 1, Next: [][]int{{-1}}, Tag: []int{-1}}},
		// What is dead is a state nevertheless, and another one than what is alike.
		{nfa(eps(1, 2), by('a', 'a', 3), by('b', 'b', 4), still(), still()), api.Dfa{Class: from('a', 1, 'b', 2, 'c', 0), Width: 3, Next: [][]int{{-1, 1, 2}, {-1, -1, -1}, {-1, -1, -1}}, Tag: []int{-1, -1, -1}}},
		{nfa(eps(1), tags(math.MaxInt)), api.Dfa{Class: from(), Width: 1, Next: [][]int{{-1}}, Tag: []int{math.MaxInt}}},
	} {
		d, e := Build(x.n, len(x.want.Next))
		if e != api.OK {
			t.Fatalf("%d: %d", i, e)
		}
		isOne(t, x.n, d, x.want)
		builds(t, x.n)
	}
}

// P24.2: automata that can't be followed, whatever most is.
func TestErrors(t *testing.T) {
	long := make([]api.NState, 4096)
	for i := range long {
		long[i] = by('a', 'a', i)
	}
	longer := append(slices.Clone(long), still())
	wrong := append(slices.Clone(long[:4095]), by('b', 'a', 0))
	for _, most := range numbers() {
		for _, x := range []struct {
			n    api.Nfa
			want api.Errno
		}{
			{api.Nfa{}, api.ErrForm},
			{api.Nfa{Start: -1}, api.ErrForm},
			{api.Nfa{Start: 1, States: []api.NState{still()}}, api.ErrForm},
			{api.Nfa{Start: -1, States: []api.NState{still()}}, api.ErrForm},
			{nfa(by(5, 4, 0)), api.ErrForm},
			{nfa(by(5, 256, 0)), api.ErrForm},
			{nfa(by(5, 6, 1)), api.ErrForm},
			{nfa(by(5, 6, -1)), api.ErrForm},
			{nfa(still(), eps(2)), api.ErrForm},
			{nfa(still(), tags(-2)), api.ErrForm},
			{api.Nfa{States: wrong}, api.ErrForm},
			{api.Nfa{States: longer}, api.ErrBig},
			{api.Nfa{States: longer, Start: 4097}, api.ErrBig},
			{api.Nfa{States: append(slices.Clone(wrong), still())}, api.ErrBig},
			{api.Nfa{States: make([]api.NState, 70000)}, api.ErrBig},
		} {
			fails(t, x.n, most, x.want)
		}
	}
	d, e := Build(api.Nfa{States: long, Start: 4095}, 1)
	if e != api.OK {
		t.Fatalf("Build of 4096 states: %d", e)
	}
	isOne(t, "4096 states", d, api.Dfa{Class: from('a', 1, 'b', 0), Width: 2, Next: [][]int{{-1, 0}}, Tag: []int{-1}})
}

// P24.2: as many states as are needed, from the whole range, and as many as there may be.
func TestMost(t *testing.T) {
	for _, states := range []int{1, 2, 3, 4, 5, 128, 255, 256, 257, 1022, 1023, 1024, 1025, 1026, 2000, 4096} {
		n := chain(states)
		for _, most := range append(numbers(), states-1, states, states+1) {
			if most < states || states > 1024 {
				fails(t, n, most, api.ErrBig)
				continue
			}
			d, e := Build(n, most)
			if e != api.OK || len(d.Next) != states || !Right(d) || d.Tag[states-1] != 7 {
				t.Fatalf("Build of %d states for at most %d: %d states, %d", states, most, len(d.Next), e)
			}
			if k := Run(d, strings.Repeat("a", states-1)); k != 7 {
				t.Fatalf("Run of %d states: %d", states, k)
			}
		}
	}
	builds(t, chain(1024))
	builds(t, chain(1025))
}

// P24.2: what is too much by a state's last class, or its first one, ahead of one that leads to nothing.
func TestMostByClass(t *testing.T) {
	for _, l := range [][]api.NState{
		{by(0, 0, 2), by(255, 255, 3)}, {by(255, 255, 2), by(0, 0, 3)}, {by(0, 254, 2), by(1, 255, 3)}, {by(0, 100, 2), by('a', 'b', 3)},
	} {
		n := nfa(append([]api.NState{eps(1, 4)}, l[0], tags(1), tags(2), l[1])...)
		d := builds(t, n)
		if len(d.Next) < 3 {
			t.Errorf("%v: %d states", n, len(d.Next))
		}
	}
}

// P24.2: all bytes told apart, each leading to a state of its own, in the order of bytes, whichever state goes by which.
func TestAllBytes(t *testing.T) {
	n := nfa(still())
	for i := range 256 {
		b := i * 77 % 256
		n.States = append(n.States, by(b, b, 257+i), tags(b))
	}
	for i := range 256 {
		n.States[1+2*i].To = 2 + 2*i
		n.States[0].Eps = append(n.States[0].Eps, 1+2*i)
	}
	d := builds(t, n)
	if d.Width != 256 || len(d.Next) != 257 {
		t.Fatalf("%d classes, %d states", d.Width, len(d.Next))
	}
	for b := range 256 {
		if to := To(d, 0, byte(b)); to != b+1 || d.Tag[to] != b {
			t.Errorf("by %d to %d", b, to)
		}
	}
}

// P24.2: each range from each edge to each other, at a state that is come to and at one that isn't.
func TestRanges(t *testing.T) {
	for _, lo := range edges() {
		for _, hi := range edges() {
			if hi < lo {
				continue
			}
			d := builds(t, nfa(by(lo, hi, 1), tags(1), by('b', 'c', 0)))
			for c := range 256 {
				want := -1
				if lo <= c && c <= hi {
					want = 1
				}
				if k := Run(d, string([]byte{byte(c)})); k != want {
					t.Fatalf("%d to %d: Run of %d: %d", lo, hi, c, k)
				}
			}
		}
	}
}

// P24.2, P24.3: all automata of two states that do some things.
func TestTwoStates(t *testing.T) {
	var all []api.NState
	for _, way := range []api.NState{still(), by('a', 'a', 0), by('a', 'b', 1), by('b', 'b', 0), by(0, 255, 1)} {
		for _, to := range [][]int{nil, {0}, {1}, {1, 0, 1}} {
			for _, tag := range []int{-1, 0, 1} {
				s := way
				s.Eps, s.Tag = to, tag
				all = append(all, s)
			}
		}
	}
	for _, a := range all {
		for _, b := range all {
			for start := range 2 {
				n := api.Nfa{Start: start, States: []api.NState{a, b}}
				told(t, n, builds(t, n), "", "a", "b", "c", "aa", "ab", "ba", "bb", "abc", "aab")
			}
		}
	}
}

// told fails where an automaton doesn't tell of texts what the one tells of which it was made.
func told(t *testing.T, n api.Nfa, d api.Dfa, texts ...string) {
	t.Helper()
	for _, text := range texts {
		want := model{n}.tells(text)
		if k, e := closure.Run(n, text); k != want || e != api.OK {
			t.Fatalf("%v tells of %q: %d, %d, not %d", n, text, k, e, want)
		}
		if k := Run(d, text); k != want {
			t.Fatalf("%v tells of %q: %d, not %d", n, text, k, want)
		}
	}
}

// P24.2, P24.3: automata of all kinds.
func TestMany(t *testing.T) {
	state := uint64(1)
	most, none := 0, 0
	for i := range 6000 {
		n := some(&state, 1+i%12)
		d := builds(t, n)
		most, none = max(most, len(d.Next)), none+strings.Count(key(d.Next[0]), "-1")
		for range 6 {
			told(t, n, d, text(&state, next(&state, 9)))
		}
	}
	if most < 20 || none < 1000 {
		t.Errorf("at most %d states; %d ways that lead to nothing", most, none)
	}
}

// P24.2, P24.3: greater ones, in sets of more than a word.
func TestGreater(t *testing.T) {
	state := uint64(2)
	made := 0
	for range 120 {
		n := some(&state, 60+next(&state, 80))
		d := builds(t, n)
		if d.Width == 0 {
			continue
		}
		made++
		for range 10 {
			told(t, n, d, text(&state, next(&state, 20)))
		}
	}
	if made < 30 {
		t.Errorf("%d were made", made)
	}
}

// P24.3: expressions, by what deriv tells of texts.
func TestExpressions(t *testing.T) {
	state := uint64(3)
	for _, s := range []string{
		"", "a", "ab", "a|b", "a*", "(a|b)*a(a|b){3}", "(ab|cd)*", "a{2,5}b?", "[a-c]+[b-d]+", "(a*b)*c", "[^\\p{Any}]", "a[^\\p{Any}]|b", "[^a]", "[^a-c]*d", "(a|ab)(c|bcd)(d*)", "((a?b)?c)?d", ".*ab.*", "é|è|[a-ÿ]b", "[\\u{10000}-\\u{10ffff}]a|[b-\\u{fffff}]", "a{0}", "(a|b|c|d){4}",
	} {
		u := tree(t, s)
		n, _ := thompson.One(u, 3)
		d := builds(t, n)
		told(t, n, d, "")
		for i := range 400 {
			text := text(&state, i%7)
			if i%3 > 0 {
				text = letters(&state, i%7)
			}
			want := -1
			if is, _ := deriv.Matches(u, text); is {
				want = 3
			}
			if k := Run(d, text); k != want {
				t.Fatalf("%q: Run of %q: %d, not %d", s, text, k, want)
			}
		}
	}
}

// letters is a text of code points.
func letters(state *uint64, length int) string {
	out := ""
	for range length {
		out += []string{"a", "b", "c", "d", "é", "è", "ÿ", "\U00010000", "\U0010ffff"}[next(state, 9)]
	}
	return out
}

// P24.3: modes: the first rule whose expression has the text.
func TestModes(t *testing.T) {
	state := uint64(4)
	rules := []string{"ab", "a|b", "[a-c]+", "a*b", "abcd|d", "[b-d]{2}", "a.c", "(ab)+", "d?a"}
	for range 60 {
		s := api.Spec{Modes: []string{"m", "x"}}
		for range 1 + next(&state, 5) {
			s.Rules = append(s.Rules, api.Rule{Mode: next(&state, 2), Tree: tree(t, rules[next(&state, len(rules))]), Act: api.Act{Goto: -1}})
		}
		for m := range 2 {
			n, e := thompson.Mode(s, m)
			if e != api.OK {
				t.Fatalf("Mode: %d", e)
			}
			d := builds(t, n)
			for i := range 60 {
				text, want := letters(&state, i%6), -1
				for k, r := range s.Rules {
					if is, _ := deriv.Matches(r.Tree, text); is && r.Mode == m && want < 0 {
						want = k
					}
				}
				if k := Run(d, text); k != want {
					t.Fatalf("%v, mode %d: Run of %q: %d, not %d", s.Rules, m, text, k, want)
				}
			}
		}
	}
}

// P24.2: automata whose sets are very many.
func TestDoubles(t *testing.T) {
	for times, states := range map[string]int{"1": 5, "4": 33, "8": 513, "9": 0, "60": 0} {
		n := one(t, "(a|b)*a(a|b){"+times+"}")
		d := builds(t, n)
		if len(d.Next) != states {
			t.Errorf("%s times: %d states", times, len(d.Next))
		}
	}
}

// P24.2: an automaton as great as may be, each of whose states goes by a byte of its own to the next one, and comes back behind the last.
func TestGreat(t *testing.T) {
	n := api.Nfa{Start: 5}
	for i := range 4096 {
		n.States = append(n.States, by(i%256, i%256, (i+1)%1024))
		n.States[i].Tag = i
	}
	want := api.Dfa{Class: from(), Width: 256}
	for i := range 1024 {
		row := slices.Repeat([]int{-1}, 256)
		row[(i+5)%256] = (i + 1) % 1024
		want.Next, want.Tag = append(want.Next, row), append(want.Tag, (i+5)%1024)
	}
	for b := range 256 {
		want.Class[b] = b
	}
	d, e := Build(n, 1024)
	if e != api.OK {
		t.Fatalf("Build: %d", e)
	}
	if !equal(d, want) || !Same(d, want) || !Right(d) {
		t.Fatalf("%d states, %d classes", len(d.Next), d.Width)
	}
	fails(t, n, 1023, api.ErrBig)
}

// kept tells of an automaton that may be in many states all numbers, and of its lists' spare room, too.
func kept(n api.Nfa) []int {
	l := []int{n.Start, len(n.States)}
	for _, s := range n.States[:cap(n.States)] {
		l = append(l, s.Lo, s.Hi, s.To, s.Tag, len(s.Eps))
		l = append(l, s.Eps[:cap(s.Eps)]...)
	}
	return l
}

// roomy is an automaton whose lists have spare room, in which something stands.
func roomy(n api.Nfa) api.Nfa {
	for i, s := range n.States {
		n.States[i].Eps = append(append(make([]int, 0, len(s.Eps)+3), s.Eps...), 55, 66, 77)[:len(s.Eps)]
	}
	states := append(slices.Clone(n.States), by(1, 2, 3), eps(4, 5))
	n.States = states[:len(n.States)]
	return n
}

// P24.1, P24.2: what is handed in stays as it was, its spare room too.
func TestHandedIn(t *testing.T) {
	state := uint64(6)
	for i := range 300 {
		n := roomy(some(&state, 1+i%9))
		was := kept(n)
		Build(n, api.MaxDfa)
		Build(n, 2)
		if !slices.Equal(kept(n), was) {
			t.Fatalf("%v is now %v", was, kept(n))
		}
		d := dfa(&state, i%6, i%5)
		for _, l := range lists(&d) {
			*l = append(slices.Clone(*l), 55, 66, 77)[:len(*l)]
		}
		own := copied(d)
		Right(d)
		Run(d, "abc")
		To(d, 0, 'a')
		Same(d, own)
		Same(own, d)
		if !equal(d, own) {
			t.Fatalf("%v is now %v", own, d)
		}
		for _, l := range lists(&d) {
			if spare := (*l)[:len(*l)+3]; !slices.Equal(spare[len(*l):], []int{55, 66, 77}) {
				t.Fatalf("the spare room is now %v", spare)
			}
		}
	}
}

// P24.2: what is told is its caller's own: no two lists of it share memory, and it shares none with what was handed in, or with what is told next.
func TestOwn(t *testing.T) {
	state := uint64(8)
	for i := range 300 {
		n := some(&state, 1+i%9)
		was := kept(n)
		d, _ := Build(n, api.MaxDfa)
		again, _ := Build(n, api.MaxDfa)
		want := copied(d)
		l, rest := lists(&d), lists(&want)
		for j := range l {
			full := (*l[j])[:cap(*l[j])]
			for p := range full {
				full[p] = -9
			}
			for k := range l {
				if k != j && !slices.Equal(*l[k], *rest[k]) {
					t.Fatalf("%v: with list %d list %d was changed: %v, not %v", n, j, k, *l[k], *rest[k])
				}
			}
			copy(*l[j], *rest[j])
		}
		for j := range l {
			clear(*l[j])
		}
		isOne(t, n, again, want)
		if third, _ := Build(n, api.MaxDfa); !equal(third, want) {
			t.Fatalf("%v: %v, not %v", n, third, want)
		}
		if !slices.Equal(kept(n), was) {
			t.Fatalf("%v is now %v", was, kept(n))
		}
	}
}

// P24.2: Start's set comes first, whichever state Start is, and its tag, and those of what comes of it, are what closure tells.
func TestStart(t *testing.T) {
	state := uint64(9)
	for i := range 100 {
		n := some(&state, 2+i%7)
		for start := range n.States {
			n.Start = start
			d := builds(t, n)
			s, _ := closure.Start(n)
			if d.Start != 0 || d.Tag[0] != closure.Best(n, s) {
				t.Fatalf("%v: Start %d, the tags %v", n, d.Start, d.Tag)
			}
			for _, c := range edges() {
				next, _ := closure.Step(n, s, byte(c))
				to := To(d, 0, byte(c))
				if (to == -1) != (next.Count() == 0) || to != -1 && d.Tag[to] != closure.Best(n, next) {
					t.Fatalf("%v: by %d to %d", n, c, to)
				}
			}
		}
	}
}

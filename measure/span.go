package measure

import (
	"spool/api"
	"spool/arena"
	"spool/ranges"
	"spool/utf"
)

const (
	// firstHalf to lastHalf are no code points, though a set may have them: no text has one.
	firstHalf = 0xD800
	lastHalf  = 0xDFFF
)

// span is how many bytes texts have that something has: the shortest one, and the longest one, which stands for nothing where they are endless. Of what has no text it is zero.
type span struct {
	has     bool
	endless bool
	least   int
	most    int
}

// whole tells the span of a tree; a tree that may not be has no text.
func whole(t api.Tree) span {
	if arena.Check(t) != api.OK {
		return span{}
	}
	return spans(t)[t.Root]
}

// spans tells the span of each node of a tree.
func spans(t api.Tree) []span {
	// Sets are reckoned once, in however many nodes they stand.
	sets := make([]span, len(t.Sets))
	for i, l := range t.Sets {
		sets[i] = spanOf(l)
	}
	return up(t, func(n api.Node, parts ...span) span {
		switch n.Op {
		case api.Set:
			return sets[n.Set]
		case api.Cat:
			return parts[0].then(parts[1])
		case api.Alt:
			return parts[0].or(parts[1])
		case api.Rep:
			return parts[0].times(n.Lo, n.Hi)
		}
		return span{has: true}
	})
}

// points tells the code points of a set.
func points(l []api.Range) []api.Range {
	return ranges.Less(l, []api.Range{{Lo: firstHalf, Hi: lastHalf}})
}

// spanOf tells the span of a set.
func spanOf(l []api.Range) span {
	l = points(l)
	if len(l) == 0 {
		return span{}
	}
	// Of two code points the greater one has no fewer bytes.
	return span{has: true, least: utf.Length(l[0].Lo), most: utf.Length(l[len(l)-1].Hi)}
}

// then tells the span of one behind the other.
func (s span) then(o span) span {
	if !s.has || !o.has {
		return span{}
	}
	return span{true, s.endless || o.endless, counted(s.least + o.least), counted(s.most + o.most)}
}

// or tells the span of one or the other.
func (s span) or(o span) span {
	switch {
	case !s.has:
		return o
	case !o.has:
		return s
	}
	return span{true, s.endless || o.endless, min(s.least, o.least), max(s.most, o.most)}
}

// times tells the span of one from lo to hi times.
func (s span) times(lo, hi int) span {
	switch {
	case hi == 0 || lo == 0 && !s.has:
		return span{has: true}
	case !s.has:
		return span{}
	}
	endless := s.endless || hi == -1 && s.most > 0
	return span{true, endless, counted(lo * s.least), counted(max(lo, hi) * s.most)}
}

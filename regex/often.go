package regex

import (
	"strings"

	"spool/api"
	"spool/arena"
	"spool/digit"
)

// times is how often something stands: from lo to hi times, or, with hi -1, from lo on.
type times struct{ lo, hi int }

// rep makes a node of another one, so many times.
func (t times) rep(b *arena.Builder, x int) int { return b.Rep(x, t.lo, t.hi) }

// wrong tells what is wrong with numbers of times.
func (t times) wrong() api.Errno {
	switch {
	case max(t.lo, t.hi) > api.MaxRep:
		return api.ErrBig
	case t.hi >= 0 && t.lo > t.hi:
		return api.ErrRange
	}
	return api.OK
}

// often tells whether a text begins with how often something stands, be that written as it ought to or not.
func often(s string) bool {
	if s == "" {
		return false
	}
	switch s[0] {
	case '*', '+', '?':
		return true
	case '{':
		_, length := digit.Lead(s[1:])
		return length > 0
	}
	return false
}

// read reads how often something stands, with which a text begins, and tells how many bytes that is.
func read(s string) (times, int, api.Errno) {
	switch s[0] {
	case '*':
		return times{0, -1}, 1, api.OK
	case '+':
		return times{1, -1}, 1, api.OK
	case '?':
		return times{0, 1}, 1, api.OK
	}
	t, length := braced(s)
	if !strings.HasPrefix(s[length:], "}") {
		return times{}, 0, api.ErrForm
	}
	if e := t.wrong(); e != api.OK {
		return times{}, 0, e
	}
	return t, length + len("}"), api.OK
}

// braced reads the numbers of times behind a `{`, as far as they are written as they ought to, and tells how many bytes that is, the `{` too.
func braced(s string) (times, int) {
	lo, digits := digit.Lead(s[len("{"):])
	length := len("{") + digits
	if !strings.HasPrefix(s[length:], ",") {
		return times{lo, lo}, length
	}
	length += len(",")
	hi, digits := digit.Lead(s[length:])
	if digits == 0 {
		hi = -1
	}
	return times{lo, hi}, length + digits
}

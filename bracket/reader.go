package bracket

import (
	"strings"

	"spool/api"
	"spool/escape"
	"spool/ranges"
	"spool/utf"
)

// reader reads a class from the left to the right: open is where its `[` is, at is what comes next, and fault is the first one that was met.
type reader struct {
	s     string
	open  int
	at    int
	fault api.Fault
}

// way reads what comes next, if it is of the way's kind, and tells its ranges, of what is wrong none; and whether it was of that kind.
type way func() ([]api.Range, bool)

// fail notes a fault, unless one was met ahead.
func (r *reader) fail(e api.Errno, at int) {
	if !r.failed() {
		r.fault = api.Fault{E: e, At: at}
	}
}

// failed tells whether a fault was met.
func (r *reader) failed() bool { return r.fault != api.Fault{} }

// skip goes past a text, if that comes next.
func (r *reader) skip(text string) bool {
	if !strings.HasPrefix(r.s[r.at:], text) {
		return false
	}
	r.at += len(text)
	return true
}

// items reads the items, to behind the class's end, and tells their set.
func (r *reader) items() []api.Range {
	// The first one is read unasked, since no class is without an item.
	l := r.item()
	for !r.failed() && !r.skip("]") {
		l = append(l, r.item()...)
	}
	return ranges.Of(l...)
}

// item reads an item. A `-` that it begins with is a number: behind an item of just one number an item begins with `-` only where that is the last one.
func (r *reader) item() []api.Range {
	from := r.at
	first := r.either(r.foreign, r.escaped, r.point)
	lo, one := escape.One(first)
	if !one || !r.dash() {
		return first
	}
	to := r.at
	hi, one := escape.One(r.either(r.escaped, r.point))
	if !one {
		// An escape of a set, or else what was met ahead, which stays.
		r.fail(api.ErrForm, to)
	}
	if hi < lo {
		r.fail(api.ErrRange, from)
	}
	return []api.Range{{Lo: lo, Hi: hi}}
}

// either reads what comes next by the first way of whose kind it is.
func (r *reader) either(ways ...way) []api.Range {
	for _, w := range ways {
		if l, ok := w(); ok {
			return l
		}
	}
	return nil
}

// foreign is the way for classes by name, and the like, of other programs' expressions.
func (r *reader) foreign() ([]api.Range, bool) {
	left := r.s[r.at:]
	if len(left) < 2 || left[0] != '[' || !strings.Contains(":=.", left[1:2]) {
		return nil, false
	}
	r.fail(api.ErrUnsupported, r.at)
	return nil, true
}

// escaped is the way for escapes, of one number or of a set.
func (r *reader) escaped() ([]api.Range, bool) {
	if !strings.HasPrefix(r.s[r.at:], `\`) {
		return nil, false
	}
	l, next, e := escape.Parse(r.s, r.at)
	if e != api.OK {
		r.fail(e, r.at)
		return nil, true
	}
	r.at = next
	return l, true
}

// point is the way for all else: a code point, but `]`.
func (r *reader) point() ([]api.Range, bool) {
	c, length := utf.Get(r.s[r.at:])
	if length == 0 {
		r.fail(api.ErrForm, r.open)
		return nil, true
	}
	if c < 0 || c == ']' {
		r.fail(api.ErrForm, r.at)
		return nil, true
	}
	r.at += length
	return []api.Range{{Lo: c, Hi: c}}, true
}

// dash goes past the `-` of an item of two numbers; the last `-` of a class is a number itself.
func (r *reader) dash() bool {
	return !strings.HasPrefix(r.s[r.at:], "-]") && r.skip("-")
}

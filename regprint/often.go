package regprint

import "spool/digit"

// often tells how often something stands, from lo to hi times, or, with hi -1, from lo on.
func often(lo, hi int) string {
	switch {
	case lo == 0 && hi == -1:
		return "*"
	case lo == 1 && hi == -1:
		return "+"
	case lo == 0 && hi == 1:
		return "?"
	}
	return braced(lo, hi)
}

// braced tells numbers of times in braces. It is made from its end on, so that of the three ways each one has what the next one has.
func braced(lo, hi int) string {
	s := "}"
	switch {
	case hi > lo:
		s = digit.Text(hi) + s
		fallthrough
	case hi == -1:
		s = "," + s
		fallthrough
	default:
		s = "{" + digit.Text(lo) + s
	}
	return s
}

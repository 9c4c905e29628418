package rulefile

import (
	"iter"
	"slices"
	"strings"

	"spool/api"
	"spool/place"
	"spool/words"
)

// The kinds of lines that say something.
const (
	aMode       = 1
	aDefinition = 2
	aRule       = 3
)

// line is a line that says something: from is the byte of the file at which it begins, first where in the line its first word does, head what is ahead of its first `:` (all, if it has none), expr the expression behind it, and at where in the line that begins.
type line struct {
	kind   int
	from   int
	first  int
	parted bool
	head   string
	expr   string
	at     int
}

// lines tells one by one the lines that say something.
func lines(text string) iter.Seq[line] {
	return func(yield func(line) bool) {
		for _, span := range place.Lines(text) {
			all := text[span[0]:span[1]]
			from, to := words.Next(all, 0)
			if from == to || all[from] == '#' {
				continue
			}
			l := split(all)
			l.kind = kindOf(all[from:to], l.parted)
			l.from, l.first = span[0], from
			if !yield(l) {
				return
			}
		}
	}
}

// split tells a line's head and expression.
func split(all string) line {
	head, tail, found := strings.Cut(all, ":")
	if !found {
		return line{head: all}
	}
	from, to := words.Trim(tail)
	return line{parted: true, head: head, expr: tail[from:to], at: len(head) + 1 + from}
}

// kindOf tells of which kind a line is, by its first word, and by whether it has a `:`.
func kindOf(first string, parted bool) int {
	switch {
	case first == "mode" && !parted:
		return aMode
	case first == "let" && parted:
		return aDefinition
	}
	return aRule
}

// fault tells a fault at a byte of a line.
func (l line) fault(e api.Errno, at int) api.Fault { return api.Fault{E: e, At: l.from + at} }

// named tells what a line names, with its second word, beside the names of its kind that there are, and of which there may be so many; or what is wrong with it.
func (l line) named(known []string, most int) (string, api.Fault) {
	all := words.All(l.head)
	if len(all) != 2 {
		return "", l.fault(api.ErrForm, l.first)
	}
	from, to := all[1][0], all[1][1]
	name := l.head[from:to]
	switch {
	case !words.Name(name):
		return "", l.fault(api.ErrName, from)
	case slices.Contains(known, name):
		return "", l.fault(api.ErrTwice, from)
	case len(known) >= most:
		return "", l.fault(api.ErrBig, from)
	}
	// Copied, since a piece would keep the whole text that was handed in.
	return strings.Clone(name), api.Fault{}
}

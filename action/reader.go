package action

import (
	"strings"

	"spool/api"
	"spool/words"
)

// The places of an action's words.
const (
	verb  = 1
	token = 2
	then  = 3
	mode  = 4
	end   = 5
)

// step is a word that may stand at a place, and the place of the word behind it; without a text it is any name.
type step struct {
	place int
	text  string
	next  int
}

// steps has all that there are.
var steps = [5]step{
	{verb, "skip", then},
	{verb, "emit", token},
	{token, "", then},
	{then, "goto", mode},
	{mode, "", end},
}

// word is a word, and where it begins; behind the last one it is empty, at the text's end.
type word struct {
	text string
	at   int
}

// reader reads a text's words from the left to the right: at is where it goes on.
type reader struct {
	text string
	at   int
}

// next reads the next word.
func (r *reader) next() word {
	from, to := words.Next(r.text, r.at)
	r.at = to
	return word{r.text[from:to], from}
}

// read reads an action, word by word.
func read(next func() word, modes []string) (api.Act, api.Fault) {
	a := api.Act{Goto: -1}
	place := verb
	for {
		w := next()
		if w.text == "" && (place == then || place == end) {
			return a, api.Fault{}
		}
		s := stepOf(place, w.text)
		if e := note(&a, s, w.text, modes); e != api.OK {
			return api.Act{}, api.Fault{E: e, At: w.at}
		}
		place = s.next
	}
}

// stepOf tells the step that a word is at a place; the zero one: it is none.
func stepOf(place int, text string) step {
	for _, s := range steps {
		// A lacking word has no text, as a step for names has none.
		if s.place == place && text != "" && (s.text == text || s.text == "") {
			return s
		}
	}
	return step{}
}

// note notes in an action what a word says, or tells what is wrong with it.
func note(a *api.Act, s step, text string, modes []string) api.Errno {
	if s == (step{}) {
		return api.ErrForm
	}
	if s.text == "" && !words.Name(text) {
		return api.ErrName
	}
	switch s.place {
	case token:
		// Copied, since a piece would keep the whole text that was handed in.
		a.Emit = strings.Clone(text)
	case mode:
		a.Goto = numberOf(text, modes)
		if a.Goto == -1 {
			return api.ErrMode
		}
	}
	return api.OK
}

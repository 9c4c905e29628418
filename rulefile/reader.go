package rulefile

import (
	"spool/action"
	"spool/api"
	"spool/measure"
	"spool/regex"
)

// reader reads a rule file: spec and defs are what was read, mode is the number of the mode that holds where it reads, -1 ahead of all.
type reader struct {
	spec api.Spec
	defs []api.Def
	mode int
}

// read reads all lines, first for the modes, since a `goto` may name one whose line is further below; it ends at the first fault.
func (r *reader) read(text string) api.Fault {
	var f api.Fault
passes:
	for _, note := range []func(*reader, line) api.Fault{(*reader).modeOf, (*reader).restOf} {
		for l := range lines(text) {
			f = note(r, l)
			if f.E != api.OK {
				break passes
			}
		}
	}
	if f.E == api.OK && len(r.spec.Rules) == 0 {
		f = api.Fault{E: api.ErrNone, At: len(text)}
	}
	return f
}

// modeOf notes the mode that a line makes.
func (r *reader) modeOf(l line) api.Fault {
	switch {
	case l.kind == aMode:
		name, f := l.named(r.spec.Modes, api.MaxModes)
		if f.E != api.OK {
			return f
		}
		r.spec.Modes = append(r.spec.Modes, name)
	case l.kind == aRule && len(r.spec.Modes) == 0:
		// No mode's line is ahead; those behind find main there already.
		r.spec.Modes = append(r.spec.Modes, "main")
	}
	return api.Fault{}
}

// restOf notes what a line says when all modes are known.
func (r *reader) restOf(l line) api.Fault {
	switch l.kind {
	case aMode:
		r.mode++
		return api.Fault{}
	case aDefinition:
		return r.define(l)
	}
	return r.rule(l)
}

// define notes a definition's line.
func (r *reader) define(l line) api.Fault {
	names := make([]string, len(r.defs))
	for i, d := range r.defs {
		names[i] = d.Name
	}
	name, f := l.named(names, api.MaxDefs)
	if f.E != api.OK {
		return f
	}
	t, f := r.tree(l)
	if f.E != api.OK {
		return f
	}
	r.defs = append(r.defs, api.Def{Name: name, Tree: t})
	return api.Fault{}
}

// rule notes a rule's line.
func (r *reader) rule(l line) api.Fault {
	if !l.parted {
		return l.fault(api.ErrForm, l.first)
	}
	act, f := action.Parse(l.head, r.spec.Modes)
	if f.E != api.OK {
		return l.fault(f.E, f.At)
	}
	if len(r.spec.Rules) >= api.MaxRules {
		return l.fault(api.ErrBig, l.first)
	}
	t, f := r.tree(l)
	if f.E != api.OK {
		return f
	}
	if measure.Least(t) == 0 {
		return l.fault(api.ErrEmpty, l.at)
	}
	// Without a mode's line ahead it stands in main, which is the first one.
	r.mode = max(r.mode, 0)
	r.spec.Rules = append(r.spec.Rules, api.Rule{Mode: r.mode, Tree: t, Act: act})
	return api.Fault{}
}

// tree reads a line's expression, with the definitions ahead.
func (r *reader) tree(l line) (api.Tree, api.Fault) {
	t, f := regex.Parse(l.expr, r.defs, false)
	if f.E != api.OK {
		return api.Tree{}, l.fault(f.E, l.at+f.At)
	}
	return t, api.Fault{}
}

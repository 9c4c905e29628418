package specprint

import (
	"slices"

	"spool/api"
	"spool/arena"
	"spool/measure"
	"spool/regprint"
	"spool/words"
)

// first tells what the first one finds that finds something. What stands behind that one isn't asked, since it may take for granted that nothing is wrong ahead.
func first(looks ...func() api.Errno) api.Errno {
	for _, look := range looks {
		if e := look(); e != api.OK {
			return e
		}
	}
	return api.OK
}

// told tells an error, if it is one.
func told(wrong bool, e api.Errno) api.Errno {
	if wrong {
		return e
	}
	return api.OK
}

// names tells whether all modes are names.
func names(modes []string) bool {
	for _, m := range modes {
		if !words.Name(m) {
			return false
		}
	}
	return true
}

// unlike tells whether no two modes are the same.
func unlike(modes []string) bool {
	for i, m := range modes {
		if slices.Contains(modes[:i], m) {
			return false
		}
	}
	return true
}

// isMode tells whether a number is a mode's.
func isMode(n int, s api.Spec) bool { return 0 <= n && n < len(s.Modes) }

// ofRules tells what is wrong with the first rule that isn't right.
func ofRules(s api.Spec) api.Errno {
	for _, r := range s.Rules {
		if e := ofRule(r, s); e != api.OK {
			return e
		}
	}
	return api.OK
}

// ofRule tells what is wrong with a rule.
func ofRule(r api.Rule, s api.Spec) api.Errno {
	return first(
		func() api.Errno {
			return told(!isMode(r.Mode, s) || r.Act.Goto != -1 && !isMode(r.Act.Goto, s), api.ErrMode)
		},
		func() api.Errno { return told(r.Act.Emit != "" && !words.Name(r.Act.Emit), api.ErrName) },
		func() api.Errno { return arena.Check(r.Tree) },
		func() api.Errno { return told(regprint.Deep(r.Tree) > api.MaxDepth, api.ErrDeep) },
		func() api.Errno { return told(measure.Least(r.Tree) == 0, api.ErrEmpty) },
	)
}

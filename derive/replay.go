package derive

import (
	"slices"

	"dwindle/api"
	"dwindle/rewrite"
	"dwindle/term"
)

// replay performs a derivation and passes on all its terms, each with its index and in new memory. It returns the errors
// of r, then those of c; the terms that come before an error have been passed on.
func replay(r []api.Rule, c api.Chain, pass func(i int, t api.Term)) api.Errno {
	if e := term.CheckSystem(r); e != api.OK {
		return e
	}
	if len(c.Steps) > api.MaxSteps {
		return api.ErrLimit
	}
	t, e := term.At(c.Start, nil)
	if e != api.OK {
		return e
	}
	pass(0, t)
	for i, s := range c.Steps {
		t, e = perform(r, t, s)
		if e != api.OK {
			return e
		}
		pass(i+1, t)
	}
	return api.OK
}

// perform is rewrite.Step for a valid system. It passes on one rule alone, because to check all rules again for every
// step would take longer than the steps.
func perform(r []api.Rule, t api.Term, s api.Step) (api.Term, api.Errno) {
	if s.Rule < 0 || s.Rule >= len(r) {
		return api.Term{}, api.ErrRange
	}
	return rewrite.Step(r[s.Rule:s.Rule+1], t, api.Step{Rule: 0, Pos: s.Pos})
}

// isUnder reports whether a step is one of the steps of t under a strategy; with a number that is no strategy, none is.
func isUnder(r []api.Rule, t api.Term, s api.Step, strategy int) bool {
	steps, _ := rewrite.Redexes(r, t, strategy)
	return slices.ContainsFunc(steps, func(x api.Step) bool {
		return x.Rule == s.Rule && slices.Equal(x.Pos, s.Pos)
	})
}

// bounded returns a derivation whose steps are possible, unless one of its terms is too large or too deep.
func bounded(r []api.Rule, c api.Chain) (api.Chain, api.Errno) {
	if _, e := Last(r, c); e != api.OK {
		return api.Chain{}, e
	}
	return c, api.OK
}

// shift returns the steps with a position before their own, in new memory.
func shift(pos []int, steps []api.Step) []api.Step {
	var list []api.Step
	for _, s := range steps {
		list = append(list, api.Step{Rule: s.Rule, Pos: slices.Concat(pos, s.Pos)})
	}
	return list
}

// check returns the errors of a system, then those of a term.
func check(r []api.Rule, t api.Term) api.Errno {
	if e := term.CheckSystem(r); e != api.OK {
		return e
	}
	return term.Check(t)
}

// clone returns a valid term in new memory.
func clone(t api.Term) api.Term {
	result, _ := term.At(t, nil)
	return result
}

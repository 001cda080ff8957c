package rewrite

import (
	"iter"
	"slices"

	"dwindle/api"
	"dwindle/unify"
)

// redex is a position with the rules that apply there, in increasing order.
type redex struct {
	pos   []int
	rules []int
}

// steps returns the steps of a redex, which share no memory.
func (x redex) steps() []api.Step {
	var list []api.Step
	for _, i := range x.rules {
		list = append(list, api.Step{Rule: i, Pos: slices.Clone(x.pos)})
	}
	return list
}

// finder finds the redexes of terms. Its left sides and terms are valid: to check them again wherever a rule might apply
// would take longer than the search.
type finder struct {
	rules  []api.Rule
	linear []bool // for each rule: no variable occurs in its left side more than once
}

// newFinder returns the finder for a valid system.
func newFinder(r []api.Rule) finder {
	f := finder{rules: r}
	for _, x := range r {
		f.linear = append(f.linear, isLinear(x.Left))
	}
	return f
}

// isLinear reports whether no variable occurs in t more than once.
func isLinear(t api.Term) bool {
	seen := map[string]bool{}
	for _, x := range places(t) {
		if !x.Var {
			continue
		}
		if seen[x.Name] {
			return false
		}
		seen[x.Name] = true
	}
	return true
}

// applies reports whether a rule applies at the root of t.
func (f finder) applies(rule int, t api.Term) bool {
	left := f.rules[rule].Left
	if !hasShape(left, t) {
		return false
	}
	if f.linear[rule] {
		return true
	}
	_, ok, _ := unify.Match(left, t)
	return ok
}

// hasShape reports whether t would be an instance of the pattern if all variables of the pattern were different.
func hasShape(pattern, t api.Term) bool {
	return pattern.Var || !t.Var && pattern.Name == t.Name && slices.EqualFunc(pattern.Args, t.Args, hasShape)
}

// redexes visits the redexes of t in preorder.
func (f finder) redexes(t api.Term) iter.Seq[redex] {
	return func(yield func(redex) bool) {
		for pos, x := range places(t) {
			var rules []int
			for i := range f.rules {
				if f.applies(i, x) {
					rules = append(rules, i)
				}
			}
			if len(rules) > 0 && !yield(redex{pos: slices.Clone(pos), rules: rules}) {
				return
			}
		}
	}
}

// chosen visits the redexes of t that a strategy chooses, in preorder.
func (f finder) chosen(t api.Term, strategy int) iter.Seq[redex] {
	all := f.redexes(t)
	switch strategy {
	case api.StInner:
		return inner(all)
	case api.StOuter:
		return outer(all)
	case api.StLeft:
		return start(inner(all))
	case api.StFirst:
		return start(all) // nothing is above the first redex in preorder
	}
	return all
}

// first returns the first step of t under a strategy, and whether there is one.
func (f finder) first(t api.Term, strategy int) (api.Step, bool) {
	for x := range f.chosen(t, strategy) {
		return api.Step{Rule: x.rules[0], Pos: x.pos}, true
	}
	return api.Step{}, false
}

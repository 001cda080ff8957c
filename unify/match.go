package unify

import (
	"maps"
	"slices"

	"dwindle/api"
	"dwindle/term"
)

// matcher has for each variable of a pattern that was met the subterm at its place.
type matcher map[string]api.Term

// match reports whether the pattern can be made equal to t with the bindings of m, to which it adds more.
func (m matcher) match(pattern, t api.Term) bool {
	if pattern.Var {
		known, ok := m[pattern.Name]
		if !ok {
			m[pattern.Name] = t
		}
		return !ok || term.Equal(known, t)
	}
	return !t.Var && pattern.Name == t.Name && slices.EqualFunc(pattern.Args, t.Args, m.match)
}

// subst returns the bindings in the order of their variables.
func (m matcher) subst() []api.Bind {
	var result []api.Bind
	for _, name := range slices.Sorted(maps.Keys(m)) {
		result = append(result, api.Bind{Name: name, Term: clone(m[name])})
	}
	return result
}

// clone returns a term in new memory.
func clone(t api.Term) api.Term {
	result := api.Term{Name: t.Name, Var: t.Var}
	for _, x := range t.Args {
		result.Args = append(result.Args, clone(x))
	}
	return result
}

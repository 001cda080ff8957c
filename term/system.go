package term

import (
	"iter"
	"maps"
	"slices"
	"strings"

	"dwindle/api"
)

// CheckSystem returns the errors of a system: ErrLimit, those of its terms, ErrName, and ErrVar.
func CheckSystem(r []api.Rule) api.Errno {
	if len(r) > api.MaxRules {
		return api.ErrLimit
	}
	for t := range sides(r) {
		if e := Check(t); e != api.OK {
			return e
		}
	}
	if _, ok := arities(r); !ok {
		return api.ErrName
	}
	for _, x := range r {
		if x.Left.Var || hasExtra(x) {
			return api.ErrVar
		}
	}
	return api.OK
}

// Symbols returns the function symbols of a system in increasing order of their names.
func Symbols(r []api.Rule) ([]api.Symbol, api.Errno) {
	if e := CheckSystem(r); e != api.OK {
		return nil, e
	}
	m, _ := arities(r)
	var list []api.Symbol
	for _, name := range slices.Sorted(maps.Keys(m)) {
		list = append(list, api.Symbol{Name: name, Arity: m[name]})
	}
	return list, api.OK
}

// sides visits the terms of the rules, the left side of each rule first.
func sides(r []api.Rule) iter.Seq[api.Term] {
	return func(yield func(api.Term) bool) {
		for _, x := range r {
			if !yield(x.Left) || !yield(x.Right) {
				return
			}
		}
	}
}

// arities returns the arities of the function symbols, or false if a symbol is marked or has two.
func arities(r []api.Rule) (map[string]int, bool) {
	m := map[string]int{}
	for t := range sides(r) {
		for _, x := range nodes(t) {
			if x.Var {
				continue
			}
			arity, known := m[x.Name]
			if strings.HasSuffix(x.Name, "#") || known && arity != len(x.Args) {
				return nil, false
			}
			m[x.Name] = len(x.Args)
		}
	}
	return m, true
}

// hasExtra reports whether the right side of a rule has a variable that its left side does not have.
func hasExtra(x api.Rule) bool {
	left := variables(x.Left)
	for name := range variables(x.Right) {
		if !left[name] {
			return true
		}
	}
	return false
}

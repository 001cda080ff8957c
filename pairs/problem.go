package pairs

import (
	"iter"
	"slices"
	"strings"

	"dwindle/api"
	"dwindle/term"
)

// subterms visits the subterms of t in preorder, t first.
func subterms(t api.Term) iter.Seq[api.Term] {
	return func(yield func(api.Term) bool) {
		walk(t, yield)
	}
}

// walk returns false if yield has ended the visit.
func walk(t api.Term, yield func(api.Term) bool) bool {
	if !yield(t) {
		return false
	}
	for _, x := range t.Args {
		if !walk(x, yield) {
			return false
		}
	}
	return true
}

// sides visits the terms of rules, the left side of each rule first.
func sides(r []api.Rule) iter.Seq[api.Term] {
	return func(yield func(api.Term) bool) {
		for _, x := range r {
			if !yield(x.Left) || !yield(x.Right) {
				return
			}
		}
	}
}

// isMarked reports whether the name of the root of t ends with the mark.
func isMarked(t api.Term) bool {
	return strings.HasSuffix(t.Name, "#")
}

// isSide reports whether a valid term may be a side of a pair: its root symbol is marked, and no other symbol is.
func isSide(t api.Term) bool {
	marks := 0
	for x := range subterms(t) {
		if isMarked(x) {
			marks++
		}
	}
	return isMarked(t) && marks == 1
}

// haveTwoArities reports whether some symbol has two arities in all these rules together.
func haveTwoArities(p, r []api.Rule) bool {
	arities := map[string]int{}
	for t := range sides(slices.Concat(p, r)) {
		for x := range subterms(t) {
			if x.Var {
				continue
			}
			if n, known := arities[x.Name]; known && n != len(x.Args) {
				return true
			}
			arities[x.Name] = len(x.Args)
		}
	}
	return false
}

// hasExtra reports whether the right side of a rule has a variable that its left side does not have.
func hasExtra(x api.Rule) bool {
	left, _ := term.Vars(x.Left)
	right, _ := term.Vars(x.Right)
	return slices.ContainsFunc(right, func(name string) bool {
		_, found := slices.BinarySearch(left, name)
		return !found
	})
}

// defined returns the set of the root symbols of the left sides.
func defined(r []api.Rule) map[string]bool {
	set := map[string]bool{}
	for _, x := range r {
		set[x.Left.Name] = true
	}
	return set
}

// calls returns the dependency pairs of a system before their sides are marked, or the first ones of too many. They share
// memory with the system.
func calls(r []api.Rule) []api.Rule {
	var list []api.Rule
	names := defined(r)
	for _, x := range r {
		parts := properSubterms(x.Left)
		for u := range subterms(x.Right) {
			if u.Var || !names[u.Name] {
				continue
			}
			if _, isPart := slices.BinarySearchFunc(parts, u, term.Compare); isPart {
				continue
			}
			call := api.Rule{Left: x.Left, Right: u}
			if !slices.ContainsFunc(list, func(y api.Rule) bool { return equal(call, y) }) {
				list = append(list, call)
			}
			if len(list) > api.MaxRules {
				return list
			}
		}
	}
	return list
}

// properSubterms returns the proper subterms of t in increasing order.
func properSubterms(t api.Term) []api.Term {
	var list []api.Term
	for _, x := range t.Args {
		list = slices.AppendSeq(list, subterms(x))
	}
	slices.SortFunc(list, term.Compare)
	return list
}

// equal reports whether two rules have equal sides.
func equal(a, b api.Rule) bool {
	return term.Equal(a.Right, b.Right) && term.Equal(a.Left, b.Left)
}

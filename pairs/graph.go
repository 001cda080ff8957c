package pairs

import (
	"slices"
	"strconv"

	"dwindle/api"
	"dwindle/unify"
)

// pattern is a left side with variables y0, y1, .. that no cap has.
type pattern struct {
	left   api.Term
	linear bool // no variable occurs in it more than once
}

// patterns returns the left sides of rules.
func patterns(r []api.Rule) []pattern {
	var list []pattern
	for _, x := range r {
		_, left, _ := unify.Apart(x.Left, x.Left)
		list = append(list, pattern{left: left, linear: isLinear(left)})
	}
	return list
}

// isLinear reports whether no variable occurs in t more than once.
func isLinear(t api.Term) bool {
	seen := map[string]bool{}
	for x := range subterms(t) {
		if !x.Var {
			continue
		}
		if seen[x.Name] {
			return false
		}
		seen[x.Name] = true
	}
	return true
}

// unifies reports whether the left side unifies with u, in which no variable occurs more than once. They unify also if
// their common instances are too large.
func (p pattern) unifies(u api.Term) bool {
	if !agree(u, p.left) {
		return false
	}
	if p.linear {
		return true
	}
	_, ok, e := unify.Unify(u, p.left)
	return ok || e == api.ErrLimit
}

// agree reports whether two terms would unify if all their variables were different.
func agree(a, b api.Term) bool {
	return a.Var || b.Var || a.Name == b.Name && slices.EqualFunc(a.Args, b.Args, agree)
}

// capper makes the caps of terms for a system.
type capper struct {
	lefts []pattern
	fresh int // the number of fresh variables that were used
}

// newCapper returns the capper for a valid system.
func newCapper(r []api.Rule) *capper {
	return &capper{lefts: patterns(r)}
}

// of returns the cap of a valid term. It is linear, as every fresh variable is used only once.
func (c *capper) of(t api.Term) api.Term {
	if t.Var {
		return c.variable()
	}
	u := c.inside(t)
	if slices.ContainsFunc(c.lefts, func(p pattern) bool { return p.unifies(u) }) {
		return c.variable()
	}
	return u
}

// inside returns a valid term with its arguments replaced by their caps.
func (c *capper) inside(t api.Term) api.Term {
	u := api.Term{Name: t.Name}
	for _, x := range t.Args {
		u.Args = append(u.Args, c.of(x))
	}
	return u
}

// variable returns a fresh variable.
func (c *capper) variable() api.Term {
	name := "x" + strconv.Itoa(c.fresh)
	c.fresh++
	return api.Term{Name: name, Var: true}
}

// edges returns the graph of a valid pair problem.
func edges(p, r []api.Rule) [][]int {
	c := newCapper(r)
	lefts := patterns(p)
	list := make([][]int, len(p))
	for i, x := range p {
		u := c.inside(x.Right)
		for k, left := range lefts {
			if left.unifies(u) {
				list[i] = append(list[i], k)
			}
		}
	}
	return list
}

// components returns the strongly connected components that contain an edge.
func components(next [][]int) [][]int {
	reach := reached(next)
	var list [][]int
	placed := make([]bool, len(next))
	for i := range next {
		if placed[i] || !reach[i][i] {
			continue
		}
		var component []int
		for k := range next {
			if reach[i][k] && reach[k][i] {
				component = append(component, k)
				placed[k] = true
			}
		}
		list = append(list, component)
	}
	return list
}

// reached tells for each two nodes whether a path with at least one edge leads from the first to the second one.
func reached(next [][]int) [][]bool {
	reach := make([][]bool, len(next))
	for i, list := range next {
		reach[i] = make([]bool, len(next))
		for _, k := range list {
			reach[i][k] = true
		}
	}
	for by := range next {
		for i := range next {
			for k := range next {
				reach[i][k] = reach[i][k] || reach[i][by] && reach[by][k]
			}
		}
	}
	return reach
}

package unify

import (
	"maps"
	"slices"
	"strconv"

	"dwindle/api"
)

// solver makes terms equal. A term that a variable must be equal to is kept as a variable too, and so are its
// arguments: two of them that were made equal are then one variable, and are not compared again. Otherwise terms that
// double their size with every binding would be compared node by node.
type solver struct {
	bound map[string]api.Term // the variables that are kept for terms; the arguments of the terms are variables
	equal map[string]string   // pairs of variables that are equal: the first one is replaced by the second one
}

// solve makes two terms equal, from left to right, unless symbols differ. It does not check whether a variable becomes
// a part of itself: that is left to hasCycle.
func (s *solver) solve(a, b api.Term) bool {
	if !a.Var && !b.Var {
		return a.Name == b.Name && slices.EqualFunc(a.Args, b.Args, s.solve)
	}
	x := s.keep(a)
	y := s.keep(b)
	return x == y || s.join(x, y)
}

// keep returns the variable for a term: one that is not replaced.
func (s *solver) keep(t api.Term) string {
	if t.Var {
		return s.last(t.Name)
	}
	flat := api.Term{Name: t.Name}
	for _, x := range t.Args {
		flat.Args = append(flat.Args, variable(s.keep(x)))
	}
	name := "#" + strconv.Itoa(len(s.bound)) // not the name of a variable of the arguments
	s.bound[name] = flat
	return name
}

// last returns the variable that finally replaces x, and shortens the way to it.
func (s *solver) last(x string) string {
	for {
		y, ok := s.equal[x]
		if !ok {
			return x
		}
		if z, ok := s.equal[y]; ok {
			s.equal[x] = z
		}
		x = y
	}
}

// join makes two different variables equal that are not replaced yet. If both are bound, it does not matter which one
// is replaced.
func (s *solver) join(x, y string) bool {
	left, isLeft := s.bound[x]
	right, isRight := s.bound[y]
	if isLeft && !isRight {
		s.equal[y] = x
		return true
	}
	s.equal[x] = y
	return !isLeft || s.solve(left, right)
}

// hasCycle is the occurs check, for all bindings at once.
func (s *solver) hasCycle() bool {
	inside := map[string]bool{}
	for x := range s.bound {
		if s.occurs(x, inside) {
			return true
		}
	}
	return false
}

// occurs reports whether the term of x contains x, or a variable whose term contains itself. A variable is inside as
// long as its arguments are visited.
func (s *solver) occurs(x string, inside map[string]bool) bool {
	x = s.last(x)
	if again, known := inside[x]; known {
		return again
	}
	inside[x] = true
	found := slices.ContainsFunc(s.bound[x].Args, func(y api.Term) bool { return s.occurs(y.Name, inside) })
	inside[x] = false
	return found
}

// extent is the size and the depth of a term.
type extent struct {
	size, depth int
}

// fits reports whether all terms of the substitution are small enough. They are not built before that is known.
func (s *solver) fits() bool {
	known := map[string]extent{}
	for _, x := range s.changed() {
		m := s.measure(x, known)
		if m.size > api.MaxSize || m.depth > api.MaxDeep {
			return false
		}
	}
	return true
}

// measure returns the extent of the term of x, or a smaller one that is beyond the limits too.
func (s *solver) measure(x string, known map[string]extent) extent {
	x = s.last(x)
	if m, ok := known[x]; ok {
		return m
	}
	m := extent{size: 1, depth: 1}
	for _, y := range s.bound[x].Args {
		part := s.measure(y.Name, known)
		m.size = min(m.size+part.size, api.MaxSize+1)
		m.depth = max(m.depth, min(part.depth, api.MaxDeep)+1)
	}
	known[x] = m
	return m
}

// changed returns the variables of the arguments that the substitution changes, in their order.
func (s *solver) changed() []string {
	var names []string
	for _, x := range slices.Sorted(maps.Keys(s.equal)) {
		if _, ok := s.bound[x]; !ok {
			names = append(names, x)
		}
	}
	return names
}

// subst returns the substitution.
func (s *solver) subst() []api.Bind {
	var result []api.Bind
	for _, x := range s.changed() {
		result = append(result, api.Bind{Name: x, Term: s.build(x)})
	}
	return result
}

// build returns the term of x with all bindings applied.
func (s *solver) build(x string) api.Term {
	x = s.last(x)
	t, ok := s.bound[x]
	if !ok {
		return variable(x)
	}
	result := api.Term{Name: t.Name}
	for _, y := range t.Args {
		result.Args = append(result.Args, s.build(y.Name))
	}
	return result
}

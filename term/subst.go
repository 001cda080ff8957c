package term

import (
	"slices"
	"strconv"
	"strings"

	"dwindle/api"
)

// image is the term that replaces a variable, with its measures.
type image struct {
	term        api.Term
	size, depth int
}

// CheckSubst returns the errors of a substitution: ErrForm for its variables, then those of its terms.
func CheckSubst(s []api.Bind) api.Errno {
	for i, b := range s {
		if !IsName(b.Name, false) || i > 0 && s[i-1].Name >= b.Name {
			return api.ErrForm
		}
	}
	for _, b := range s {
		if e := Check(b.Term); e != api.OK {
			return e
		}
	}
	return api.OK
}

// Apply returns t with all variables of s replaced.
func Apply(s []api.Bind, t api.Term) (api.Term, api.Errno) {
	if e := CheckSubst(s); e != api.OK {
		return api.Term{}, e
	}
	if e := Check(t); e != api.OK {
		return api.Term{}, e
	}
	return apply(images(s), t)
}

// Compose returns the substitution that first applies s and then u.
func Compose(s, u []api.Bind) ([]api.Bind, api.Errno) {
	if e := CheckSubst(s); e != api.OK {
		return nil, e
	}
	if e := CheckSubst(u); e != api.OK {
		return nil, e
	}
	first, second := images(s), images(u)
	var result []api.Bind
	for _, b := range s {
		t, e := apply(second, b.Term)
		if e != api.OK {
			return nil, e
		}
		result = append(result, api.Bind{Name: b.Name, Term: t})
	}
	for _, b := range u {
		if _, ok := first[b.Name]; !ok {
			result = append(result, api.Bind{Name: b.Name, Term: clone(b.Term)})
		}
	}
	slices.SortFunc(result, func(a, b api.Bind) int { return strings.Compare(a.Name, b.Name) })
	return result, api.OK
}

// images returns the images of the variables of s.
func images(s []api.Bind) map[string]image {
	m := make(map[string]image, len(s))
	for _, b := range s {
		m[b.Name] = image{term: b.Term, size: Size(b.Term), depth: Depth(b.Term)}
	}
	return m
}

// apply replaces the variables of a valid term.
func apply(m map[string]image, t api.Term) (api.Term, api.Errno) {
	if !fits(m, t) {
		return api.Term{}, api.ErrLimit
	}
	result := replace(t, func(name string) api.Term {
		if x, ok := m[name]; ok {
			return clone(x.term)
		}
		return variable(name)
	})
	return result, api.OK
}

// fits measures what replace would build before it is built, because it may be thousands of times as large as t.
func fits(m map[string]image, t api.Term) bool {
	size, deepest := 0, 0
	for depth, x := range nodes(t) {
		node, ok := m[x.Name]
		if !x.Var || !ok {
			node = image{size: 1, depth: 1}
		}
		size += node.size
		deepest = max(deepest, depth-1+node.depth)
	}
	return size <= api.MaxSize && deepest <= api.MaxDeep
}

// Rename returns t with the suffix appended to the name of every variable.
func Rename(t api.Term, suffix string) (api.Term, api.Errno) {
	if e := Check(t); e != api.OK {
		return api.Term{}, e
	}
	if !isPlain(suffix) {
		return api.Term{}, api.ErrForm
	}
	for name := range variables(t) {
		if len(name)+len(suffix) > api.MaxName {
			return api.Term{}, api.ErrLimit
		}
	}
	return replace(t, func(name string) api.Term { return variable(name + suffix) }), api.OK
}

// Canonical returns t with its variables renamed to x0, x1, .. in the order of their first occurrence.
func Canonical(t api.Term) (api.Term, api.Errno) {
	if e := Check(t); e != api.OK {
		return api.Term{}, e
	}
	names := map[string]string{}
	result := replace(t, func(name string) api.Term {
		if _, ok := names[name]; !ok {
			next := "x" + strconv.Itoa(len(names))
			names[name] = next
		}
		return variable(names[name])
	})
	return result, api.OK
}

package term

import (
	"iter"

	"dwindle/api"
)

// nodes visits the nodes of any term in preorder, each with the depth at which it stands: 1 for the root.
func nodes(t api.Term) iter.Seq2[int, api.Term] {
	return func(yield func(int, api.Term) bool) {
		walk(1, t, yield)
	}
}

// walk returns false if yield has ended the visit.
func walk(depth int, t api.Term, yield func(int, api.Term) bool) bool {
	if !yield(depth, t) {
		return false
	}
	for _, x := range t.Args {
		if !walk(depth+1, x, yield) {
			return false
		}
	}
	return true
}

// variables returns the set of the variables of t.
func variables(t api.Term) map[string]bool {
	set := map[string]bool{}
	for _, x := range nodes(t) {
		if x.Var {
			set[x.Name] = true
		}
	}
	return set
}

// variable returns the variable with this name.
func variable(name string) api.Term {
	return api.Term{Name: name, Var: true}
}

// replace returns a valid term with its variables replaced, from left to right, in new memory if the images are.
func replace(t api.Term, image func(name string) api.Term) api.Term {
	if t.Var {
		return image(t.Name)
	}
	result := api.Term{Name: t.Name}
	if len(t.Args) > 0 {
		result.Args = make([]api.Term, len(t.Args))
	}
	for i, x := range t.Args {
		result.Args[i] = replace(x, image)
	}
	return result
}

// clone returns a valid term in new memory.
func clone(t api.Term) api.Term {
	return replace(t, variable)
}

package rewrite

import (
	"slices"

	"dwindle/api"
	"dwindle/term"
	"dwindle/unify"
)

// subst returns the substitution with which the left side of the rule of a step matches.
func subst(r []api.Rule, t api.Term, s api.Step) ([]api.Bind, api.Errno) {
	if s.Rule < 0 || s.Rule >= len(r) {
		return nil, api.ErrRange
	}
	x, ok := at(t, s.Pos)
	if !ok {
		return nil, api.ErrRange
	}
	l, ok, _ := unify.Match(r[s.Rule].Left, x)
	if !ok {
		return nil, api.ErrStep
	}
	return l, api.OK
}

// perform returns the term after steps at parallel positions, which shares memory with t. Only the limits of that term
// count: the single steps, in the order of the list, may lead to larger terms on the way.
func perform(r []api.Rule, t api.Term, l ...api.Step) (api.Term, api.Errno) {
	result, size := t, 0
	for _, s := range l {
		b, e := subst(r, t, s)
		if e != api.OK {
			return api.Term{}, e
		}
		x, e := term.Apply(b, r[s.Rule].Right)
		if e != api.OK {
			return api.Term{}, e
		}
		size += term.Size(x)
		if size > api.MaxSize {
			return api.Term{}, api.ErrLimit
		}
		result = put(result, s.Pos, x)
	}
	if e := term.Check(result); e != api.OK {
		return api.Term{}, e
	}
	return result, api.OK
}

// at returns the subterm of t at pos, which shares memory with t, and whether there is such a position.
func at(t api.Term, pos []int) (api.Term, bool) {
	for _, i := range pos {
		if i < 0 || i >= len(t.Args) {
			return api.Term{}, false
		}
		t = t.Args[i]
	}
	return t, true
}

// put returns t with the subterm at pos replaced by x, whatever the limits are. It shares memory with t and x.
func put(t api.Term, pos []int, x api.Term) api.Term {
	if len(pos) == 0 {
		return x
	}
	t.Args = slices.Clone(t.Args)
	t.Args[pos[0]] = put(t.Args[pos[0]], pos[1:], x)
	return t
}

// clone returns a valid term, or the zero value, in new memory.
func clone(t api.Term) api.Term {
	result, _ := term.At(t, nil)
	return result
}

// areParallel reports whether the positions of the steps are pairwise parallel. In preorder all positions below one
// follow it at once, so that it is enough to compare neighbours.
func areParallel(l []api.Step) bool {
	list := make([][]int, len(l))
	for i, s := range l {
		list[i] = s.Pos
	}
	slices.SortFunc(list, slices.Compare[[]int])
	for i := 1; i < len(list); i++ {
		if slices.Equal(list[i], list[i-1]) || isBelow(list[i], list[i-1]) {
			return false
		}
	}
	return true
}

// isBelow reports whether a position is below another one.
func isBelow(pos, other []int) bool {
	return len(pos) > len(other) && slices.Equal(pos[:len(other)], other)
}

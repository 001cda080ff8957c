package rewrite

import (
	"iter"

	"dwindle/api"
)

// isStrategy reports whether a number is one of the strategies.
func isStrategy(n int) bool {
	return api.StAny <= n && n <= api.StFirst
}

// places visits the positions of t in preorder, each with the subterm there. All of them are written to the same memory:
// a position is valid until the next one is visited.
func places(t api.Term) iter.Seq2[[]int, api.Term] {
	return func(yield func([]int, api.Term) bool) {
		walk(nil, t, yield)
	}
}

// walk returns false if yield has ended the visit.
func walk(pos []int, t api.Term, yield func([]int, api.Term) bool) bool {
	if !yield(pos, t) {
		return false
	}
	for i, x := range t.Args {
		if !walk(append(pos, i), x, yield) {
			return false
		}
	}
	return true
}

// inner visits the redexes, all of which are given in preorder, that have none below them: a redex has one below it if
// and only if the next one is.
func inner(all iter.Seq[redex]) iter.Seq[redex] {
	return func(yield func(redex) bool) {
		var held []redex // none or one
		for x := range all {
			if len(held) > 0 && !isBelow(x.pos, held[0].pos) && !yield(held[0]) {
				return
			}
			held = []redex{x}
		}
		if len(held) > 0 {
			yield(held[0])
		}
	}
}

// outer visits the redexes, all of which are given in preorder, that are not below one.
func outer(all iter.Seq[redex]) iter.Seq[redex] {
	return func(yield func(redex) bool) {
		var top []redex // none or one
		for x := range all {
			if len(top) > 0 && isBelow(x.pos, top[0].pos) {
				continue
			}
			top = []redex{x}
			if !yield(x) {
				return
			}
		}
	}
}

// start visits the first redex.
func start(all iter.Seq[redex]) iter.Seq[redex] {
	return func(yield func(redex) bool) {
		for x := range all {
			yield(x)
			return
		}
	}
}

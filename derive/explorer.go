package derive

import (
	"slices"

	"dwindle/api"
	"dwindle/rewrite"
)

// explorer is a reduction graph that grows to at most so many terms.
type explorer struct {
	api.Graph
	most    int
	index   map[string]int // of each term, by its key
	normals []api.Term     // the terms without a step
}

// explore returns the explorer that has processed all its terms.
func explore(r []api.Rule, t api.Term, most int) (explorer, api.Errno) {
	if e := check(r, t); e != api.OK {
		return explorer{}, e
	}
	if most < 1 || most > api.MaxTerms {
		return explorer{}, api.ErrArg
	}
	x := explorer{Graph: api.Graph{Whole: true}, most: most, index: map[string]int{}}
	x.place(clone(t))
	for i := 0; i < len(x.Terms); i++ {
		if e := x.process(r, i); e != api.OK {
			return explorer{}, e
		}
	}
	return x, api.OK
}

// process performs all steps of a term.
func (x *explorer) process(r []api.Rule, from int) api.Errno {
	t := x.Terms[from]
	steps, e := rewrite.Redexes(r, t, api.StAny)
	if e != api.OK {
		return e
	}
	if len(steps) == 0 {
		x.normals = append(x.normals, t)
	}
	for _, s := range steps {
		next, e := perform(r, t, s)
		if e != api.OK {
			return e
		}
		to, ok := x.place(next)
		if ok {
			x.Edges = append(x.Edges, api.Edge{From: from, To: to, Step: s})
		} else {
			x.Whole = false
		}
	}
	return api.OK
}

// place returns the index of a term, which it adds if it is new, and whether there was room for it.
func (x *explorer) place(t api.Term) (int, bool) {
	k := key(t)
	if i, known := x.index[k]; known {
		return i, true
	}
	i := len(x.Terms)
	if i == x.most {
		return 0, false
	}
	x.index[k] = i
	x.Terms = append(x.Terms, t)
	return i, true
}

// path returns the steps from the first term to another one. The first edge to a term is the one that added it, so these
// edges are the first shortest way to it.
func (x *explorer) path(to int) []api.Step {
	first := map[int]api.Edge{}
	for _, edge := range slices.Backward(x.Edges) {
		first[edge.To] = edge
	}
	var steps []api.Step
	for i := to; i != 0; i = first[i].From {
		steps = append(steps, first[i].Step)
	}
	slices.Reverse(steps)
	return steps
}

// longest returns the length of the longest path from the first term, and true unless there is a cycle. All terms are
// reached from the first one.
func (x *explorer) longest() (int, bool) {
	const unknown, open = -2, -1
	next := make([][]int, len(x.Terms))
	for _, edge := range x.Edges {
		next[edge.From] = append(next[edge.From], edge.To)
	}
	lengths := slices.Repeat([]int{unknown}, len(x.Terms))
	var visit func(i int) bool // reports whether no cycle is reached
	visit = func(i int) bool {
		if lengths[i] != unknown {
			return lengths[i] != open
		}
		lengths[i] = open
		length := 0
		for _, j := range next[i] {
			if !visit(j) {
				return false
			}
			length = max(length, 1+lengths[j])
		}
		lengths[i] = length
		return true
	}
	if !visit(0) {
		return 0, false
	}
	return lengths[0], true
}

// key returns a string that no other valid term has: its nodes in preorder, whose names are followed by a sign that is
// in no name, and by the number of arguments.
func key(t api.Term) string {
	return string(appendKey(nil, t))
}

// appendKey appends the key of a term.
func appendKey(b []byte, t api.Term) []byte {
	sign := byte('(')
	if t.Var {
		sign = '?'
	}
	b = append(b, t.Name...)
	b = append(b, sign, byte('0'+len(t.Args)))
	for _, x := range t.Args {
		b = appendKey(b, x)
	}
	return b
}

package term

import (
	"slices"

	"dwindle/api"
)

// Positions returns all positions of t in preorder.
func Positions(t api.Term) ([][]int, api.Errno) {
	if e := Check(t); e != api.OK {
		return nil, e
	}
	return appendPositions(nil, nil, t), api.OK
}

// appendPositions appends the positions of t, which stands at pos. All calls write to the memory of one path, so each
// position that is listed is a copy.
func appendPositions(list [][]int, pos []int, t api.Term) [][]int {
	list = append(list, slices.Clone(pos))
	for i, x := range t.Args {
		list = appendPositions(list, append(pos, i), x)
	}
	return list
}

// At returns the subterm of t at pos.
func At(t api.Term, pos []int) (api.Term, api.Errno) {
	if e := Check(t); e != api.OK {
		return api.Term{}, e
	}
	at := locate(&t, pos)
	if at == nil {
		return api.Term{}, api.ErrRange
	}
	return clone(*at), api.OK
}

// Put returns t with the subterm at pos replaced by x.
func Put(t api.Term, pos []int, x api.Term) (api.Term, api.Errno) {
	if e := Check(t); e != api.OK {
		return api.Term{}, e
	}
	result := clone(t)
	at := locate(&result, pos)
	if at == nil {
		return api.Term{}, api.ErrRange
	}
	if e := Check(x); e != api.OK {
		return api.Term{}, e
	}
	*at = clone(x)
	if Check(result) != api.OK {
		return api.Term{}, api.ErrLimit
	}
	return result, api.OK
}

// locate returns the place of the subterm at pos, or nil if there is no such position.
func locate(t *api.Term, pos []int) *api.Term {
	for _, i := range pos {
		if i < 0 || i >= len(t.Args) {
			return nil
		}
		t = &t.Args[i]
	}
	return t
}

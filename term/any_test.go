package term_test

import (
	"fmt"
	"testing"

	"dwindle/api"
	"dwindle/term"
)

// answers writes the results of all functions for these arguments.
func answers(s, u []api.Bind, a, b api.Term, pos []int) string {
	r := rules(a, b, b, a, f("f", a), f("f", b))
	l := []any{term.IsName(a.Name, true), term.IsName(a.Name, false), term.Check(a), term.Size(a), term.Depth(a)}
	l = append(l, term.Equal(a, b), term.Compare(a, b), term.Count(a, b.Name), term.CheckSubst(s), term.CheckSystem(r))
	add := func(x any, e api.Errno) { l = append(l, x, e) }
	add2 := func(x api.Term, e api.Errno) { l = append(l, show(x), e) }
	vars, e := term.Vars(a)
	add(vars, e)
	list, e := term.Positions(a)
	add(list, e)
	add2(term.At(a, pos))
	add2(term.Put(a, pos, b))
	add2(term.Apply(s, a))
	both, e := term.Compose(s, u)
	add(showSubst(both), e)
	add2(term.Rename(a, b.Name))
	add2(term.Canonical(a))
	symbols, e := term.Symbols(r)
	add(symbols, e)
	return fmt.Sprint(l...)
}

// P1, P2 and rule 4: no function panics, depends on anything but its arguments, or changes them.
func TestAnyArguments(t *testing.T) {
	list := []api.Term{v("x"), f("c"), f("f", v("z"), v("y"), f("g", v("x"), f("c")), v("y"))}
	for _, x := range odd() {
		if term.Size(x.t) < 1000 {
			list = append(list, x.t)
		}
	}
	substs := [][]api.Bind{nil, bind("x", f("h", v("y")), "y", v("z")), bind("", api.Term{})}
	for i, a := range list {
		for j, b := range list {
			s, u := substs[i%len(substs)], substs[j%len(substs)]
			pos := [][]int{nil, {0}, {2, 1}, {-1}, {1 << 62}}[(i+j)%5]
			before := showSubst(s) + showSubst(u) + show(a) + show(b) + fmt.Sprint(pos)
			first := answers(s, u, a, b, pos)
			for range 3 {
				if answers(s, u, a, b, pos) != first {
					t.Error("different results", show(a), show(b))
				}
			}
			if showSubst(s)+showSubst(u)+show(a)+show(b)+fmt.Sprint(pos) != before {
				t.Error("an argument has changed", before)
			}
		}
	}
}

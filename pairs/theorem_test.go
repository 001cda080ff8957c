package pairs_test

import (
	"slices"
	"testing"

	"dwindle/api"
	"dwindle/derive"
	"dwindle/pairs"
	"dwindle/term"
	"dwindle/unify"
)

// apply returns an instance of a term.
func apply(t *testing.T, s []api.Bind, x api.Term) api.Term {
	t.Helper()
	y, e := term.Apply(s, x)
	if e != api.OK {
		t.Fatal(showSubst(s), show(x), e)
	}
	return y
}

// reducts returns terms to which a term rewrites, beginning with itself.
func reducts(t *testing.T, r []api.Rule, x api.Term) []api.Term {
	t.Helper()
	g, e := derive.Explore(r, x, 40)
	if e != api.OK {
		t.Fatal(showRules(r), show(x), e)
	}
	return g.Terms
}

// isInstance reports whether a term is an instance of another one.
func isInstance(t *testing.T, x, of api.Term) bool {
	t.Helper()
	_, ok, e := unify.Match(of, x)
	if e != api.OK {
		t.Fatal(show(x), show(of), e)
	}
	return ok
}

// edges returns the edges of a pair problem.
func edges(t *testing.T, x problem) [][]int {
	t.Helper()
	l, e := pairs.Edges(x.p, x.r)
	if e != api.OK {
		t.Fatal(showRules(x.p), showRules(x.r), e)
	}
	return l
}

// P10.8

func TestEstimate(t *testing.T) {
	d := dice(7)
	count, after := 0, 0
	for _, x := range problems(t) {
		next := edges(t, x)
		for i := range x.p {
			for range 5 {
				start := apply(t, d.subst(), x.p[i].Right)
				for at, y := range reducts(t, x.r, start) {
					for k := range x.p {
						if !isInstance(t, y, x.p[k].Left) {
							continue
						}
						count++
						after += min(at, 1)
						if !slices.Contains(next[i], k) {
							t.Error(showRules(x.p), showRules(x.r), i, k, show(start), show(y))
						}
					}
				}
			}
		}
	}
	if count < 1000 || after < 500 {
		t.Error("too few instances of left sides", count, after)
	}
}

func TestChainTheorem(t *testing.T) {
	count, steps := 0, 0
	for _, x := range problems(t) {
		next := edges(t, x)
		for a := range x.p {
			for b := range x.p {
				c, s, ok, e := pairs.Chain(x.p, x.r, a, b, 40)
				if e != api.OK {
					t.Fatal(showRules(x.p), showRules(x.r), a, b, e)
				}
				if !ok {
					continue
				}
				count++
				steps += len(c.Steps)
				last, e := derive.Last(x.r, c)
				if e != api.OK || !isInstance(t, c.Start, x.p[a].Right) || !term.Equal(last, apply(t, s, x.p[b].Left)) {
					t.Error(showRules(x.p), showRules(x.r), a, b, showChain(c), showSubst(s), e)
				}
				if !slices.Contains(next[a], b) {
					t.Error("no edge", showRules(x.p), showRules(x.r), a, b, showChain(c))
				}
			}
		}
	}
	if count < 100 || steps < 50 {
		t.Error("too few derivations or steps", count, steps)
	}
}

// P10.9

func TestCapTheorem(t *testing.T) {
	d := dice(8)
	count := 0
	for _, r := range systems(t) {
		for range 40 {
			x := d.term(4, "x", "y")
			c, e := pairs.Cap(r, x)
			if e != api.OK {
				t.Fatal(showRules(r), show(x), e)
			}
			for range 3 {
				start := apply(t, d.subst(), x)
				for _, y := range reducts(t, r, start) {
					if !isInstance(t, y, c) {
						t.Error(showRules(r), show(x), show(c), show(start), show(y))
					}
					if !c.Var {
						count++
					}
				}
			}
		}
	}
	if count < 5000 {
		t.Error("too few terms", count)
	}
}

// A cap is linear, and the cap of what it says is again the same.
func TestCapTwice(t *testing.T) {
	d := dice(9)
	for _, r := range systems(t) {
		for range 40 {
			x := d.term(5, "x", "y")
			c, _ := pairs.Cap(r, x)
			names, _ := term.Vars(c)
			for _, name := range names {
				if term.Count(c, name) != 1 {
					t.Error(showRules(r), show(x), show(c))
				}
			}
			if again, e := pairs.Cap(r, c); e != api.OK || !term.Equal(c, again) {
				t.Error(showRules(r), show(x), show(c), show(again), e)
			}
		}
	}
}

// P10.10

// cycle follows edges at random until a node comes again, and returns the nodes from its first visit on; or none if there
// is no edge to follow.
func (d *dice) cycle(next [][]int) []int {
	way := []int{d.below(len(next))}
	for {
		to := next[way[len(way)-1]]
		if len(to) == 0 {
			return nil
		}
		i := to[d.below(len(to))]
		if at := slices.Index(way, i); at >= 0 {
			return way[at:]
		}
		way = append(way, i)
	}
}

func TestCycles(t *testing.T) {
	d := dice(10)
	l := problems(t)
	for i := range 100 {
		l = append(l, problem{coded(d.graph(2+i%10, 1, 4)), nil})
	}
	count := 0
	for _, x := range l {
		if len(x.p) == 0 {
			continue
		}
		next := edges(t, x)
		components, e := pairs.Components(x.p, x.r)
		if e != api.OK {
			t.Fatal(showRules(x.p), showRules(x.r), e)
		}
		for range 30 {
			cycle := d.cycle(next)
			count += min(len(cycle), 2) / 2
			within := func(list []int) bool {
				return !slices.ContainsFunc(cycle, func(i int) bool { return !slices.Contains(list, i) })
			}
			if !slices.ContainsFunc(components, within) && len(cycle) > 0 {
				t.Error(next, components, cycle)
			}
		}
	}
	if count < 1000 {
		t.Error("too few cycles of several pairs", count)
	}
}

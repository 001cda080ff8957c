package derive_test

import (
	"slices"
	"testing"

	"dwindle/api"
	"dwindle/derive"
	"dwindle/term"
)

// P5.8

func TestJoinTheorem(t *testing.T) {
	d := dice(8)
	count := 0
	for _, r := range systems(t) {
		for range 80 {
			a := d.chain(t, r, d.term(4, "x", "z"), d.below(4))
			b := d.chain(t, r, last(t, r, a), d.below(4))
			if len(a.Steps) > 0 && len(b.Steps) > 0 {
				count++
			}
			c, e := derive.Join(r, a, b)
			expectChain(t, "join", c, e, chain(a.Start, slices.Concat(a.Steps, b.Steps)...))
			expectTerms(t, r, c, append(termsOf(t, r, a), termsOf(t, r, b)[1:]...))
			if !term.Equal(last(t, r, c), last(t, r, b)) {
				t.Error(showSystem(r), showChain(a), showChain(b), showChain(c))
			}
		}
	}
	if count < 150 {
		t.Error("too few derivations", count)
	}
}

func TestInsideTheorem(t *testing.T) {
	d := dice(9)
	count := 0
	for _, r := range systems(t) {
		for range 15 {
			c := d.chain(t, r, d.term(3, "x", "z"), 3)
			terms := termsOf(t, r, c)
			context := d.term(4, "x", "y")
			positions, _ := term.Positions(context)
			for _, pos := range positions {
				count += len(c.Steps)
				got, e := derive.Inside(r, c, context, pos)
				if e != api.OK {
					t.Fatal(showSystem(r), showChain(c), show(context), pos, e)
				}
				var want []api.Term
				for _, x := range terms {
					y, _ := term.Put(context, pos, x)
					want = append(want, y)
				}
				expectTerms(t, r, got, want)
				for i, s := range got.Steps {
					if s.Rule != c.Steps[i].Rule || !slices.Equal(s.Pos, slices.Concat(pos, c.Steps[i].Pos)) {
						t.Error(showChain(c), show(context), pos, showChain(got))
					}
				}
			}
		}
	}
	if count < 1000 {
		t.Error("too few steps", count)
	}
}

func TestInstanceTheorem(t *testing.T) {
	d := dice(10)
	count := 0
	for _, r := range systems(t) {
		for range 40 {
			c := d.chain(t, r, d.term(4, "x", "z"), 3)
			s := []api.Bind{{Name: "x", Term: d.term(3, "z", "y")}, {Name: "z", Term: d.term(3, "x")}}
			got, e := derive.Instance(r, c, s)
			if e != api.OK {
				t.Fatal(showSystem(r), showChain(c), showSubst(s), e)
			}
			var want []api.Term
			for _, x := range termsOf(t, r, c) {
				y, _ := term.Apply(s, x)
				want = append(want, y)
			}
			count += len(c.Steps)
			expectTerms(t, r, got, want)
			if showSteps(got.Steps) != showSteps(c.Steps) {
				t.Error(showSystem(r), showChain(c), showChain(got))
			}
		}
	}
	if count < 500 {
		t.Error("too few steps", count)
	}
}

// Derivations that are composed in either order are the same.
func TestCompositions(t *testing.T) {
	d := dice(11)
	for _, r := range systems(t) {
		for range 20 {
			a := d.chain(t, r, d.term(3, "x", "z"), 3)
			b := d.chain(t, r, last(t, r, a), 3)
			s := []api.Bind{{Name: "x", Term: d.term(3, "z")}, {Name: "z", Term: d.term(2, "x")}}
			context, pos := f("f", d.term(2), d.term(3)), []int{d.below(2)}
			whole := composed(t)(derive.Join(r, a, b))
			for _, change := range []func(c api.Chain) (api.Chain, api.Errno){
				func(c api.Chain) (api.Chain, api.Errno) { return derive.Inside(r, c, context, pos) },
				func(c api.Chain) (api.Chain, api.Errno) { return derive.Instance(r, c, s) },
			} {
				first, second := composed(t)(change(a)), composed(t)(change(b))
				joined, e := derive.Join(r, first, second)
				expectChain(t, "composition", joined, e, composed(t)(change(whole)))
			}
		}
	}
}

// composed returns a function that returns a derivation unless there is an error.
func composed(t *testing.T) func(c api.Chain, e api.Errno) api.Chain {
	return func(c api.Chain, e api.Errno) api.Chain {
		t.Helper()
		if e != api.OK {
			t.Fatal(e)
		}
		return c
	}
}

// P5.9

// hasTerm reports whether a graph has a term.
func hasTerm(g api.Graph, x api.Term) bool {
	return slices.ContainsFunc(g.Terms, func(y api.Term) bool { return term.Equal(x, y) })
}

func TestGraphTheorem(t *testing.T) {
	d := dice(12)
	count := 0
	for _, r := range systems(t) {
		for range 20 {
			x := d.term(4, "x", "z")
			g, e := derive.Explore(r, x, 40)
			if e != api.OK {
				t.Fatal(showSystem(r), show(x), e)
			}
			// Every term is reached, by a derivation that Path finds, and all edges are steps.
			for _, y := range g.Terms {
				c, ok, e := derive.Path(r, x, y, 40)
				if !ok || e != api.OK || !term.Equal(c.Start, x) || !term.Equal(last(t, r, c), y) {
					t.Error(showSystem(r), show(x), show(y), showChain(c), ok, e)
				}
			}
			for _, edge := range g.Edges {
				if !term.Equal(do(t, r, g.Terms[edge.From], edge.Step), g.Terms[edge.To]) {
					t.Error(showSystem(r), show(x), edge)
				}
			}
			if !g.Whole {
				continue
			}
			count++
			// No derivation leaves the graph.
			for _, y := range g.Terms {
				c := d.chain(t, r, y, 5)
				for _, z := range termsOf(t, r, c) {
					if !hasTerm(g, z) {
						t.Error(showSystem(r), show(x), showChain(c), show(z))
					}
				}
			}
		}
	}
	if count < 200 {
		t.Error("too few whole graphs", count)
	}
}

// A graph with room for exactly its terms is whole, and with less room it is not.
func TestGraphRoom(t *testing.T) {
	d := dice(13)
	for _, r := range systems(t) {
		for range 10 {
			x := d.term(4, "x", "z")
			g, _ := derive.Explore(r, x, 40)
			if !g.Whole {
				continue
			}
			expectGraph(t, r, x, len(g.Terms), showGraph(g))
			for most := 1; most < len(g.Terms); most++ {
				part, e := derive.Explore(r, x, most)
				if part.Whole || showTerms(part.Terms) != showTerms(g.Terms[:most]) || e != api.OK {
					t.Error(showSystem(r), show(x), most, showGraph(part), e)
				}
				if n, ok, e := derive.Longest(r, x, most); n != 0 || ok || e != api.OK {
					t.Error(showSystem(r), show(x), most, n, ok, e)
				}
			}
		}
	}
}

// P5.10

// lengthOf returns the length of the longest derivation from x, or false if there is one with more than so many steps.
func lengthOf(t *testing.T, r []api.Rule, x api.Term, most int) (int, bool) {
	t.Helper()
	length := 0
	for _, s := range redexes(t, r, x, api.StAny) {
		if most == 0 {
			return 0, false
		}
		n, ok := lengthOf(t, r, do(t, r, x, s), most-1)
		if !ok {
			return 0, false
		}
		length = max(length, n+1)
	}
	return length, true
}

func TestLongestTheorem(t *testing.T) {
	d := dice(14)
	count := map[bool]int{}
	for _, r := range systems(t) {
		for range 40 {
			x := d.term(3, "x", "z")
			g, _ := derive.Explore(r, x, 60)
			n, ok, e := derive.Longest(r, x, 60)
			if e != api.OK {
				t.Fatal(showSystem(r), show(x), e)
			}
			// A derivation without a cycle has fewer steps than the graph has terms.
			most := len(g.Terms) - 1
			if ok {
				most = n
			}
			if most > 8 {
				continue
			}
			count[ok]++
			want, bounded := lengthOf(t, r, x, most)
			if ok != (g.Whole && bounded) || ok && n != want || !ok && n != 0 {
				t.Error(showSystem(r), show(x), n, ok, want, bounded)
			}
		}
	}
	if count[true] < 300 || count[false] < 50 {
		t.Error("too few of a kind", count)
	}
}

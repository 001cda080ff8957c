package derive_test

import (
	"fmt"
	"slices"
	"testing"

	"dwindle/api"
	"dwindle/derive"
	"dwindle/term"
)

// expectGraph reports a result of Explore that is not the expected one.
func expectGraph(t *testing.T, r []api.Rule, x api.Term, most int, want string) {
	t.Helper()
	if g, e := derive.Explore(r, x, most); e != api.OK || showGraph(g) != want {
		t.Errorf("%.80s: %.80s, at most %d: %.200s, error %d, expected %.200s", showSystem(r), show(x), most, showGraph(g), e, want)
	}
}

// P5.5

func TestExplore(t *testing.T) {
	for _, x := range []struct {
		r, t string
		most int
		want string
	}{
		{"a -> b a -> c b -> a", "a", 10, "a; b; c / 0-0[]-1 0-1[]-2 1-2[]-0 / true"},
		{"a -> b a -> c b -> a", "a", 3, "a; b; c / 0-0[]-1 0-1[]-2 1-2[]-0 / true"},
		{"a -> b a -> c b -> a", "a", 2, "a; b / 0-0[]-1 1-2[]-0 / false"},
		{"a -> b a -> c b -> a", "a", 1, "a /  / false"},
		{"a -> b a -> c b -> a", "c", 1, "c /  / true"},
		{"a -> b", "x", 10, "?x /  / true"},
		{"", "a", 10, "a /  / true"},
		{"a -> a", "a", 1, "a / 0-0[]-0 / true"},
		{"a -> b a -> b", "a", 10, "a; b / 0-0[]-1 0-1[]-1 / true"},
		{"a -> b a -> b", "a", 1, "a /  / false"},
		{"a -> b", "f(a, a)", 10, "f(a, a); f(b, a); f(a, b); f(b, b) / 0-0[0]-1 0-0[1]-2 1-0[1]-3 2-0[0]-3 / true"},
		{"a -> b", "f(a, a)", 3, "f(a, a); f(b, a); f(a, b) / 0-0[0]-1 0-0[1]-2 / false"},
		{"a -> b", "f(a, a)", 2, "f(a, a); f(b, a) / 0-0[0]-1 / false"},
		{"a -> b f(x, x) -> x", "f(a, a)", 10,
			"f(a, a); a; f(b, a); f(a, b); b; f(b, b) / 0-1[]-1 0-0[0]-2 0-0[1]-3 1-0[]-4 2-0[1]-5 3-0[0]-5 5-1[]-4 / true"},
		// Breadth first: what d leads to comes after c.
		{"a -> d a -> c d -> b b -> c", "a", 10, "a; d; c; b / 0-0[]-1 0-1[]-2 1-2[]-3 3-3[]-2 / true"},
		{"a -> d a -> c d -> b b -> c", "a", 3, "a; d; c / 0-0[]-1 0-1[]-2 / false"},
		// What is left out is not reached later; steps to terms that are there are edges.
		{"a -> b a -> c b -> c b -> a b -> b", "a", 2, "a; b / 0-0[]-1 1-3[]-0 1-4[]-1 / false"},
		{"a -> s(a)", "a", 4, "a; s(a); s(s(a)); s(s(s(a))) / 0-0[]-1 1-0[0]-2 2-0[0 0]-3 / false"},
		{"f(x, y) -> f(y, x)", "f(x, f(a, y))", 10,
			"f(?x, f(a, ?y)); f(f(a, ?y), ?x); f(?x, f(?y, a)); f(f(?y, a), ?x) / 0-0[]-1 0-0[1]-2 1-0[]-0 1-0[0]-3 2-0[]-3 2-0[1]-0 3-0[]-2 3-0[0]-1 / true"},
	} {
		expectGraph(t, system(t, x.r), parse(t, x.t), x.most, x.want)
	}
}

// Terms are different if a variable is a constant in the other one, or if only the numbers of arguments differ.
func TestExploreSimilar(t *testing.T) {
	r := []api.Rule{rule(f("p", v("x"), v("y")), v("x")), rule(f("p", v("x"), v("y")), v("y"))}
	for _, x := range [][2]api.Term{
		{v("c"), f("c")},
		{f("f", v("c")), f("f", f("c"))},
		{f("f", f("g"), f("c")), f("f", f("g", f("c")))},
		{f("f", f("g", f("a")), f("b")), f("f", f("g", f("a"), f("b")))},
		{f("f", f("g"), f("a"), f("b")), f("f", f("g", f("a"), f("b")))},
		{f("f", f("ab"), f("c")), f("f", f("a"), f("bc"))},
		{f("f", f("a"), f("1")), f("f", f("a1"))},
		{f("f", f("a1"), f("b")), f("f", f("a"), f("1b"))},
		{f("f", f("a0"), v("b")), f("f", f("a"), v("0b"))},
		{f("f#", f("c")), f("f", f("c"))},
		{f("f", f("c#"), f("c")), f("f", f("c"), f("c#"))},
		{f("f", v("x"), v("y")), f("f", v("y"), v("x"))},
		{f("f'", f("c")), f("f_", f("c"))},
		{f("F"), f("f")},
	} {
		a, b := show(x[0]), show(x[1])
		expectGraph(t, r, f("p", x[0], x[1]), 10, "p("+a+", "+b+"); "+a+"; "+b+" / 0-0[]-1 0-1[]-2 / true")
		expectGraph(t, r, f("p", x[1], x[0]), 10, "p("+b+", "+a+"); "+b+"; "+a+" / 0-0[]-1 0-1[]-2 / true")
		expectGraph(t, r, f("p", x[0], x[0]), 10, "p("+a+", "+a+"); "+a+" / 0-0[]-1 0-1[]-1 / true")
		if _, ok, e := derive.Path(r, x[0], x[1], 10); ok || e != api.OK {
			t.Error("a path between different terms", a, b, e)
		}
	}
}

func TestExploreAll(t *testing.T) {
	d := dice(5)
	whole := map[bool]int{}
	for _, r := range systems(t) {
		for range 30 {
			x := d.term(4, "x", "z")
			for _, most := range []int{1, 2, 3, 5, 8, 30} {
				want := graphOf(t, r, x, most)
				whole[want.Whole]++
				expectGraph(t, r, x, most, showGraph(want))
			}
		}
	}
	if whole[true] < 500 || whole[false] < 500 {
		t.Error("too few of a kind", whole)
	}
}

// word returns a term with so many constants, in a nest of binary symbols.
func word(n int, leaf api.Term) api.Term {
	t := leaf
	for range n - 1 {
		t = f("f", leaf, t)
	}
	return t
}

func TestExploreLarge(t *testing.T) {
	r := system(t, "a -> b")
	g, e := derive.Explore(r, word(12, f("a")), api.MaxTerms)
	if len(g.Terms) != api.MaxTerms || len(g.Edges) != 12*2048 || !g.Whole || e != api.OK {
		t.Error(len(g.Terms), len(g.Edges), g.Whole, e)
	}
	g, e = derive.Explore(r, word(12, f("a")), api.MaxTerms-1)
	if len(g.Terms) != api.MaxTerms-1 || len(g.Edges) != 12*2048-12 || g.Whole || e != api.OK {
		t.Error(len(g.Terms), len(g.Edges), g.Whole, e)
	}
	g, e = derive.Explore(r, word(13, f("a")), api.MaxTerms)
	if len(g.Terms) != api.MaxTerms || g.Whole || e != api.OK {
		t.Error(len(g.Terms), g.Whole, e)
	}
	g, e = derive.Explore(r, wide(1000, f("a")), 2)
	if len(g.Terms) != 2 || len(g.Edges) != 1 || g.Whole || e != api.OK {
		t.Error(len(g.Terms), len(g.Edges), g.Whole, e)
	}
}

// A result that is too large is an error, even if there is no room for it; that most is not possible comes first.
func TestExploreLimits(t *testing.T) {
	grow := system(t, "a -> s(a)")
	double := system(t, "d(x) -> e(x, x, c) a -> b")
	for _, x := range []struct {
		r    []api.Rule
		t    api.Term
		most int
		want api.Errno
	}{
		{grow, f("a"), api.MaxDeep - 1, api.OK}, // the last term is processed as well
		{grow, f("a"), api.MaxDeep, api.ErrLimit},
		{grow, tower(api.MaxDeep-2, f("a")), 1, api.OK},
		{grow, tower(api.MaxDeep-1, f("a")), 1, api.ErrLimit},
		{grow, tower(api.MaxDeep-1, f("a")), 2, api.ErrLimit},
		{double, f("d", wide(1999, f("c"))), 1, api.OK},
		{double, f("d", wide(2000, f("c"))), 1, api.ErrLimit},
		{double, f("h", f("a"), f("d", wide(1998, f("c")))), 2, api.OK},
		{double, f("h", f("a"), f("d", wide(1999, f("c")))), 1, api.ErrLimit},
		{system(t, "a -> b b -> c"), wide(api.MaxSize, f("c")), 9, api.OK},
		{system(t, "a -> b b -> c c -> e(a, a)"), f("a"), 1, api.OK},
		{system(t, "a -> b"), wide(api.MaxSize+1, f("c")), 9, api.ErrLimit},
	} {
		g, e := derive.Explore(x.r, x.t, x.most)
		if e != x.want || (len(g.Terms) == 0) != (e != api.OK) || e != api.OK && showGraph(g) != showGraph(api.Graph{}) {
			t.Errorf("%.80s, at most %d: %d terms, error %d, expected %d", show(x.t), x.most, len(g.Terms), e, x.want)
		}
		c := call{r: x.r, t: x.t, u: x.t, most: x.most}
		for _, fn := range functions()[6:] {
			if got, e := fn.run(c); e != x.want || e != api.OK && got != empty(fn.name) {
				t.Errorf("%s: %.80s, at most %d: %.80s, error %d, expected %d", fn.name, show(x.t), x.most, got, e, x.want)
			}
			c := c
			c.most = 0
			if got, e := fn.run(c); e == api.OK || e != api.ErrArg && term.Check(x.t) == api.OK || got != empty(fn.name) {
				t.Errorf("%s: %.80s: %.80s, error %d", fn.name, show(x.t), got, e)
			}
		}
	}
}

func TestExploreMemory(t *testing.T) {
	r := system(t, "a -> b g(x) -> h(x, x) k(x) -> k(b)")
	x := parse(t, "f(g(s(a)), k(s(y)))")
	before := showSystem(r) + show(x)
	g, _ := derive.Explore(r, x, 20)
	for i, y := range g.Terms {
		rest := showTerms(g.Terms[i+1:])
		spoil(y)
		if showTerms(g.Terms[i+1:]) != rest {
			t.Error("two terms share memory", i)
		}
	}
	for i, edge := range g.Edges {
		rest := showEdges(g.Edges[i+1:])
		spoilPos(edge.Step.Pos)
		if showEdges(g.Edges[i+1:]) != rest {
			t.Error("two positions share memory", i)
		}
	}
	c, _, _ := derive.Path(r, x, parse(t, "f(h(s(b), s(b)), k(b))"), 50)
	if len(c.Steps) != 3 {
		t.Error(showChain(c))
	}
	spoilApart(t, c)
	for _, most := range []int{1, 50} {
		l, _, _ := derive.Normals(r, f("p", x), most)
		for _, y := range l {
			spoil(y)
		}
		l, _, _ = derive.Normals(r, parse(t, "s(s(b))"), most)
		spoil(l[0])
	}
	if showSystem(r)+show(x) != before {
		t.Error("a result shares memory with an argument", showSystem(r), show(x))
	}
}

// P5.6

// expectPath reports a result of Path that is not the expected one; there is no path if the steps are "none".
func expectPath(t *testing.T, r []api.Rule, from, to api.Term, most int, want string) {
	t.Helper()
	c, ok, e := derive.Path(r, from, to, most)
	if e != api.OK || ok != (want != "none") || ok && showChain(c) != show(from)+" by "+want || !ok && showChain(c) != showChain(api.Chain{}) {
		t.Errorf("%.80s: from %.80s to %.80s, at most %d: %.80s, %v, error %d, expected %.80s", showSystem(r), show(from), show(to), most, showChain(c), ok, e, want)
	}
}

func TestPath(t *testing.T) {
	for _, x := range []struct {
		r, from, to string
		most        int
		want        string
	}{
		{"a -> b", "a", "b", 2, "0[]"},
		{"a -> b", "a", "b", 1, "none"},
		{"a -> b", "b", "a", 9, "none"},
		{"a -> b", "a", "a", 1, ""},
		{"a -> a", "a", "a", 1, ""},
		{"a -> b b -> a", "a", "a", 9, ""},
		{"a -> b", "x", "x", 1, ""},
		{"a -> b", "x", "y", 9, "none"},
		{"a -> b", "a", "c", 9, "none"},
		{"", "a", "b", 9, "none"},
		{"a -> b a -> c b -> a", "f(b)", "f(c)", 10, "2[0] 1[0]"},
		{"a -> b a -> c b -> a", "f(b)", "f(c)", 3, "2[0] 1[0]"},
		{"a -> b a -> c b -> a", "f(b)", "f(c)", 2, "none"},
		// The shortest one, whatever the order of the rules is.
		{"a -> b b -> c a -> c", "a", "c", 9, "2[]"},
		{"a -> b b -> c c -> d a -> c", "a", "d", 9, "3[] 2[]"},
		{"a -> b b -> c c -> d d -> e a -> c b -> d", "a", "e", 9, "0[] 5[] 3[]"},
		// The first one of several.
		{"a -> b a -> b", "a", "b", 9, "0[]"},
		{"a -> c a -> b b -> d c -> d", "a", "d", 9, "0[] 3[]"},
		{"a -> b a -> c b -> d c -> d", "a", "d", 9, "0[] 2[]"},
		{"a -> b", "f(a, a)", "f(b, b)", 9, "0[0] 0[1]"},
		{"a -> b b -> c", "f(a, a)", "f(c, b)", 9, "0[0] 1[0] 0[1]"},
		{"a -> b f(x, x) -> x", "f(a, a)", "b", 9, "1[] 0[]"},
		{"f(x, y) -> f(y, x)", "f(x, f(a, y))", "f(f(y, a), x)", 9, "0[] 0[0]"},
	} {
		expectPath(t, system(t, x.r), parse(t, x.from), parse(t, x.to), x.most, x.want)
	}
	// The second term need not fit the system.
	expectPath(t, system(t, "a -> g(a)"), f("a"), f("g", f("g", f("a"), f("a"))), 9, "none")
	expectPath(t, system(t, "a -> b"), f("a"), f("b#"), 9, "none")
	expectPath(t, system(t, "a -> b"), f("a"), v("b"), 9, "none")
	expectPath(t, system(t, "a -> b"), f("f#", f("a")), f("f#", f("b")), 9, "0[0]")
}

// shortest returns the steps of the first shortest derivation by the definition: all derivations of one length are
// listed, in the order of their steps, before the longer ones.
func shortest(t *testing.T, r []api.Rule, from, to api.Term, most int) (string, bool) {
	t.Helper()
	ways := []api.Chain{chain(from)}
	for range most + 1 {
		var longer []api.Chain
		for _, c := range ways {
			x := last(t, r, c)
			if term.Equal(x, to) {
				return showSteps(c.Steps), true
			}
			for _, s := range redexes(t, r, x, api.StAny) {
				longer = append(longer, chain(from, append(slices.Clone(c.Steps), s)...))
			}
		}
		ways = longer
	}
	return "", false
}

func TestPathAll(t *testing.T) {
	d := dice(6)
	count := 0
	for _, r := range systems(t) {
		for range 25 {
			x := d.term(4, "x", "z")
			g := graphOf(t, r, x, 12)
			for _, y := range g.Terms {
				want, ok := shortest(t, r, x, y, 3)
				if !ok {
					continue
				}
				if len(want) > 6 {
					count++
				}
				expectPath(t, r, x, y, 12, want)
			}
			if z := d.term(3, "y"); !slices.ContainsFunc(g.Terms, func(y api.Term) bool { return term.Equal(y, z) }) {
				expectPath(t, r, x, z, 12, "none")
			}
		}
	}
	if count < 300 {
		t.Error("too few paths", count)
	}
}

// Path finds what Explore finds with the same limit, and nothing else.
func TestPathMost(t *testing.T) {
	r := system(t, "a -> s(a)")
	for n := range 8 {
		for most := 1; most < 8; most++ {
			c, ok, e := derive.Path(r, f("a"), tower(n, f("a")), most)
			if ok != (n < most) || ok && len(c.Steps) != n || e != api.OK {
				t.Error(n, most, showChain(c), ok, e)
			}
		}
	}
	// One way through many terms.
	digits := system(t, "n(x, z0, y) -> n(x, z1, y) n(z0, z1, y) -> n(z1, z0, y) n(z1, z1, z0) -> n(z0, z0, z1)")
	expectPath(t, digits, parse(t, "n(z0, z0, z0)"), parse(t, "n(z1, z1, z1)"), 8, "0[] 1[] 0[] 2[] 0[] 1[] 0[]")
	expectPath(t, digits, parse(t, "n(z0, z0, z0)"), parse(t, "n(z1, z1, z1)"), 7, "none")
}

// Errors that only the graph shows are reported also if the second term is found before, or is not there.
func TestPathErrors(t *testing.T) {
	grow := system(t, "a -> s(a)")
	for _, x := range []api.Term{f("a"), f("s", f("a")), f("b")} {
		c, ok, e := derive.Path(grow, f("a"), x, api.MaxDeep)
		if ok || showChain(c) != showChain(api.Chain{}) || e != api.ErrLimit {
			t.Error(showChain(c), ok, e)
		}
	}
	for _, x := range oddTerms() {
		if _, ok, e := derive.Path(grow, f("a"), x.t, api.MaxDeep); ok || e != x.e {
			t.Error(x.name, ok, e)
		}
	}
}

// P5.7

func TestNormals(t *testing.T) {
	for _, x := range []struct {
		r, t string
		most int
		want string
	}{
		{"a -> b a -> c b -> a", "a", 10, "c true"},
		{"a -> b a -> c b -> a", "a", 3, "c true"},
		{"a -> b a -> c b -> a", "a", 2, " false"},
		{"a -> b a -> c", "a", 2, "b false"},
		{"a -> b a -> c", "a", 1, " false"},
		{"a -> b", "b", 1, "b true"},
		{"", "f(x, a)", 1, "f(?x, a) true"},
		{"a -> a", "a", 5, " true"},
		{"a -> s(a)", "a", 5, " false"},
		{"a -> s(a) a -> c", "a", 5, "c; s(c) false"},
		// A term whose results are all left out is no normal form.
		{"a -> b b -> c", "a", 2, " false"},
		{"a -> d a -> c d -> b b -> c", "a", 3, "c false"},
		// The order is that of the terms, not that of the graph.
		{"a -> d a -> c a -> b", "a", 9, "b; c; d true"},
		{"a -> d a -> c a -> b", "f(a, a)", 20, "f(b, b); f(b, c); f(b, d); f(c, b); f(c, c); f(c, d); f(d, b); f(d, c); f(d, d) true"},
		{"p(x, y) -> x p(x, y) -> y", "p(b, p(a, x))", 9, "?x; a; b true"},
		{"p(x, y) -> x p(x, y) -> y", "p(g(a), p(b, p(a, f(x, y))))", 20, "a; b; f(?x, ?y); g(a) true"},
		{"a -> b f(x, x) -> x", "f(a, a)", 10, "b true"},
	} {
		l, whole, e := derive.Normals(system(t, x.r), parse(t, x.t), x.most)
		if got := fmt.Sprint(showTerms(l), " ", whole); got != x.want || e != api.OK {
			t.Error(x, got, e)
		}
	}
}

func TestNormalsAll(t *testing.T) {
	d := dice(7)
	count := 0
	for _, r := range systems(t) {
		for range 20 {
			x := d.term(4, "x", "z")
			for _, most := range []int{1, 2, 5, 30} {
				g := graphOf(t, r, x, most)
				want := slices.DeleteFunc(slices.Clone(g.Terms), func(y api.Term) bool { return len(redexes(t, r, y, api.StAny)) > 0 })
				slices.SortFunc(want, term.Compare)
				if len(want) > 1 {
					count++
				}
				if l, whole, e := derive.Normals(r, x, most); showTerms(l) != showTerms(want) || whole != g.Whole || e != api.OK {
					t.Error(showSystem(r), show(x), most, showTerms(l), whole, e)
				}
			}
		}
	}
	if count < 25 {
		t.Error("too few graphs with several normal forms", count)
	}
}

func TestLongest(t *testing.T) {
	for _, x := range []struct {
		r, t string
		most int
		want string
	}{
		{"a -> b a -> c b -> a", "a", 10, "0 false"},
		{"a -> b", "a", 2, "1 true"},
		{"a -> b", "a", 1, "0 false"},
		{"a -> b", "b", 1, "0 true"},
		{"a -> b", "x", 9, "0 true"},
		{"", "f(a, x)", 9, "0 true"},
		{"a -> a", "a", 9, "0 false"},
		{"a -> b b -> b", "a", 9, "0 false"},
		{"a -> c a -> b b -> d d -> b", "f(a, x)", 9, "0 false"},
		{"a -> a", "b", 9, "0 true"},
		{"a -> s(a)", "a", 9, "0 false"},
		{"a -> b b -> c a -> c", "a", 9, "2 true"},
		{"a -> c a -> b b -> c", "a", 9, "2 true"},
		{"a -> b b -> c c -> d d -> e a -> c a -> e b -> e", "a", 9, "4 true"},
		{"a -> b a -> b", "f(a, a)", 9, "2 true"},
		{"a -> b b -> c a -> c", "f(a, f(a, a))", 27, "6 true"},
		{"a -> b b -> c a -> c", "f(a, f(a, a))", 26, "0 false"},
		{"a -> b f(x, x) -> x", "f(a, a)", 9, "3 true"},
		{"f(x, y) -> x a -> b", "f(a, b)", 9, "2 true"},
		{"f(x, y) -> x a -> b", "f(a, a)", 9, "3 true"},
		{"add(0, y) -> y add(s(x), y) -> s(add(x, y))", "add(s(s(0)), s(0))", 9, "3 true"},
	} {
		n, ok, e := derive.Longest(system(t, x.r), parse(t, x.t), x.most)
		if got := fmt.Sprint(n, ok); got != x.want || e != api.OK {
			t.Error(x, got, e)
		}
	}
}

func TestLongestLarge(t *testing.T) {
	for n := 1; n < 13; n++ {
		if got, ok, e := derive.Longest(system(t, "a -> b"), word(n, f("a")), 1<<n); got != n || !ok || e != api.OK {
			t.Error(n, got, ok, e)
		}
	}
	// All terms in one row: a counter in base 16 with three digits.
	var r []api.Rule
	digit := func(i int) api.Term { return f(fmt.Sprint("z", i)) }
	for i := range 15 {
		r = append(r, rule(f("n", v("x"), v("y"), digit(i)), f("n", v("x"), v("y"), digit(i+1))))
		r = append(r, rule(f("n", v("x"), digit(i), digit(15)), f("n", v("x"), digit(i+1), digit(0))))
		r = append(r, rule(f("n", digit(i), digit(15), digit(15)), f("n", digit(i+1), digit(0), digit(0))))
	}
	x := f("n", digit(0), digit(0), digit(0))
	if n, ok, e := derive.Longest(r, x, api.MaxTerms); n != 4095 || !ok || e != api.OK {
		t.Error(n, ok, e)
	}
	if n, ok, e := derive.Longest(r, x, api.MaxTerms-1); n != 0 || ok || e != api.OK {
		t.Error(n, ok, e)
	}
	if c, ok, e := derive.Path(r, x, f("n", digit(15), digit(15), digit(15)), api.MaxTerms); len(c.Steps) != 4095 || !ok || e != api.OK {
		t.Error(len(c.Steps), ok, e)
	}
}

package pairs_test

import (
	"fmt"
	"slices"
	"testing"

	"dwindle/api"
	"dwindle/derive"
	"dwindle/pairs"
	"dwindle/read"
	"dwindle/term"
	"dwindle/unify"
)

// P10.4

func TestCap(t *testing.T) {
	add := "add(0, y) -> y add(s(x), y) -> s(add(x, y))"
	for _, x := range []struct{ r, t, want string }{
		{"", "x", "x0"},
		{"", "y", "x0"},
		{"", "a", "a"},
		{"", "f(y, x, g(y), y)", "f(x0, x1, g(x2), x3)"},
		{"a -> b", "a", "x0"},
		{"a -> b", "b", "b"},
		{"a -> b", "f(a, b, a)", "f(x0, b, x1)"},
		{"a -> b", "a(x)", "a(x0)"},
		{"a -> b", "a#", "a#"},
		{"a -> b", "f#(a, x, g#(a))", "f#(x0, x1, g#(x2))"},
		{add, "f(add(x, y), s(0), x, add(a, y))", "f(x0, s(0), x1, add(a, x2))"},
		{add, "add(add(x, y), a)", "x0"},
		{add, "add(a, add(x, y))", "add(a, x0)"},
		{add, "add(add(a, x), y)", "add(add(a, x0), x1)"},
		{add, "add(s(a), b)", "x0"},
		{add, "s(add(x, add(0, y)))", "s(x0)"},
		{add, "add(x)", "add(x0)"},
		// A left side in which a variable occurs twice.
		{"f(x, x) -> x", "f(a, b)", "f(a, b)"},
		{"f(x, x) -> x", "f(a, a)", "x0"},
		{"f(x, x) -> x", "f(x, y)", "x0"},
		{"f(x, x) -> x", "f(g(x), x)", "x0"}, // the two variables are different in the cap
		{"f(x, x) -> x", "f(g(x), h(x))", "f(g(x0), h(x1))"},
		{"f(x, x) -> x", "f(g(x, a), g(b, y))", "x0"},
		{"f(x, x) -> x", "f(g(x, a), g(x, b))", "f(g(x0, a), g(x1, b))"},
		{"f(x, x) -> x", "f(f(a, b), f(y, b))", "x0"},
		{"f(x, x) -> x", "f(f(a, b), g(f(y, b)))", "f(f(a, b), g(x0))"},
		{"f(x, x, x) -> x", "f(a, y, b)", "f(a, x0, b)"},
		{"f(x, x, x) -> x", "f(g(a, y), g(x, b), g(x, y))", "x0"},
		{"f(x, x, x) -> x", "f(g(a, y), g(x, b), g(b, y))", "f(g(a, x0), g(x1, b), g(b, x2))"},
		{"f(g(x), x) -> x", "f(x, h(x))", "x0"},
		{"f(g(x), x) -> x", "f(g(a), h(x))", "f(g(a), h(x0))"},
		{"f(x, y, x, y) -> x", "f(a, b, x, y)", "x0"},
		{"f(x, y, x, y) -> x", "f(a, b, x, a)", "f(a, b, x0, a)"},
		// What is inside may become a variable first, and then more unifies.
		{"g(a) -> b f(b) -> a", "f(g(a))", "x0"},
		{"g(a) -> b f(b) -> a", "f(g(b))", "f(g(b))"},
		{"g(a) -> b f(b) -> a", "h(f(g(x)), g(f(x)), f(a))", "h(x0, x1, f(a))"},
		// The fresh variables are numbered as they occur in the result, not as they were made.
		{"g(x) -> x", "f(g(h(x, y, z)), y, g(x), f(x, y))", "f(x0, x1, x2, f(x3, x4))"},
	} {
		want, _, _ := read.Term(x.want, []string{"x0", "x1", "x2", "x3", "x4"})
		if c, e := pairs.Cap(system(t, x.r), parse(t, x.t)); e != api.OK || !term.Equal(c, want) {
			t.Errorf("%s: %s: %s, error %d", x.r, x.t, show(c), e)
		}
	}
}

// Function symbols may have the names of variables, also of those that are used inside.
func TestCapNames(t *testing.T) {
	for _, x := range []struct {
		r    []api.Rule
		t    api.Term
		want string
	}{
		{[]api.Rule{rule(f("f", v("x0"), f("y0"), v("x0")), v("x0"))}, f("f", f("a"), f("y0"), f("b")), "f(a, y0, b)"},
		{[]api.Rule{rule(f("f", v("x0"), f("x0"), v("x0")), v("x0"))}, f("f", f("a"), f("x0"), f("a")), "?x0"},
		{[]api.Rule{rule(f("f", v("y0"), f("y0")), v("y0"))}, f("f", v("y0"), v("y0")), "?x0"},
		{[]api.Rule{rule(f("f", f("x"), f("y")), f("x"))}, f("f", v("x"), f("x")), "f(?x0, x)"},
		{[]api.Rule{rule(f("f", v("f")), v("f"))}, f("g", v("f"), f("f", v("f"))), "g(?x0, ?x1)"},
		{[]api.Rule{rule(f("f", f("g", v("x0")), v("x0")), v("x0"))}, f("f", v("x"), f("g", v("x"))), "?x0"},
		{[]api.Rule{rule(f("f", f("g", v("y0")), v("y0")), v("y0"))}, f("f", v("y0"), f("g", v("y0"))), "?x0"},
		{[]api.Rule{rule(f("f", v("x1"), f("g", v("x1"), v("x0"))), v("x0"))}, f("f", f("h", v("x")), f("g", v("x"), v("y"))), "?x0"},
		{[]api.Rule{rule(f("x0"), f("a"))}, f("g", v("x0"), f("x0"), f("x1")), "g(?x0, ?x1, x1)"},
	} {
		if c, e := pairs.Cap(x.r, x.t); e != api.OK || show(c) != x.want {
			t.Error(showRules(x.r), show(x.t), show(c), e)
		}
	}
}

func TestCapAll(t *testing.T) {
	d := dice(3)
	changed := 0
	for _, r := range systems(t) {
		for range 100 {
			x := d.term(5, "x", "y")
			want := canonical(t, capOf(r, x, new(int)))
			if c, e := pairs.Cap(r, x); e != api.OK || !term.Equal(c, want) {
				t.Error(showRules(r), show(x), show(c), show(want), e)
			}
			if !want.Var && term.Size(want) < term.Size(x) {
				changed++
			}
		}
	}
	if changed < 500 {
		t.Error("too few caps that are neither variables nor as large as their terms", changed)
	}
}

func TestCapLimits(t *testing.T) {
	// A cap and a left side unify also if their common instance is too large or too deep to be a term.
	r := system(t, "f(h(x, x, x, x, x, x, x, x), x) -> x")
	if c, e := pairs.Cap(r, f("f", v("y"), wide(3000, v("y")))); e != api.OK || show(c) != "?x0" {
		t.Errorf("%.80s, error %d", show(c), e)
	}
	r = []api.Rule{rule(f("f", tower(150, "s", v("x")), v("x")), v("x"))}
	for _, right := range []api.Term{f("a"), v("x"), tower(150, "s", v("y"))} {
		if c, e := pairs.Cap(r, f("f", v("y"), right)); e != api.OK || show(c) != "?x0" {
			t.Errorf("%.80s, error %d", show(c), e)
		}
	}
	if c, e := pairs.Cap(r, f("f", tower(150, "s", f("a")), tower(150, "s", v("y")))); e != api.OK || term.Size(c) != 303 {
		t.Errorf("%.80s, error %d", show(c), e)
	}
	// The largest and the deepest terms.
	for _, x := range []api.Term{wide(api.MaxSize, v("x")), wide(api.MaxSize, f("a")), tower(api.MaxDeep-1, "s", v("x"))} {
		if c, e := pairs.Cap(system(t, "f(x) -> x"), x); e != api.OK || !term.Equal(c, canonical(t, capOf(nil, x, new(int)))) {
			t.Errorf("%.80s: %.80s, error %d", show(x), show(c), e)
		}
	}
	if c, e := pairs.Cap(system(t, "s(a) -> a a -> s(s(a))"), tower(api.MaxDeep-1, "s", f("a"))); e != api.OK || show(c) != "?x0" {
		t.Errorf("%.80s, error %d", show(c), e)
	}
	if c, e := pairs.Cap(system(t, "s(b) -> a"), tower(api.MaxDeep-1, "s", f("a"))); e != api.OK || term.Depth(c) != api.MaxDeep {
		t.Errorf("%.80s, error %d", show(c), e)
	}
}

// P10.5

func TestEdges(t *testing.T) {
	for _, x := range []struct{ p, r, want string }{
		{"", "", "[]"},
		{"f#(x) -> f#(x)", "", "[[0]]"},
		{"f#(x) -> g#(x)", "", "[[]]"},
		{"f#(x) -> g#(x); g#(x) -> f#(x)", "", "[[1] [0]]"},
		{"f#(f(x)) -> f#(g(f(x)))", "f(f(x)) -> f(g(f(x)))", "[[]]"},
		{"f#(a) -> f#(a)", "", "[[0]]"},
		{"f#(a) -> f#(b)", "", "[[]]"},
		{"f#(a) -> f#(b)", "b -> c", "[[0]]"}, // the cap says no more than that b may change
		{"f#(a) -> f#(a)", "a -> b", "[[0]]"},
		{"f#(a) -> f#(h(b))", "b -> c", "[[]]"},
		{"f#(h(x)) -> f#(h(b)); f#(g(x)) -> f#(g(b)); f#(x) -> f#(b)", "b -> c", "[[0 2] [1 2] [0 1 2]]"},
		// Equal variables of a right side become different ones.
		{"f#(x, g(x)) -> f#(x, x)", "", "[[0]]"},
		{"f#(x, a, b) -> f#(x, x, x)", "", "[[0]]"},
		{"f#(x, x) -> f#(a, b)", "", "[[]]"},
		{"f#(x, x) -> f#(a, b)", "a -> b", "[[0]]"},
		{"f#(x, x) -> f#(g(a), h(a))", "a -> b", "[[]]"},
		{"f#(x, x) -> f#(g(x), h(x)); f#(g(x), y) -> f#(y, y)", "", "[[1] [0 1]]"},
		// Left sides are renamed apart.
		{"f#(x, g(y)) -> f#(g(x), y)", "", "[[0]]"},
		{"f#(g(x), x) -> f#(x, g(x))", "", "[[0]]"},
		// The root symbol and the number of its arguments count, and rules do not apply at a root.
		{"f#(x) -> g#(x, x); g#(x, y) -> h#; h# -> h#", "f(x) -> a g(x, y) -> a h -> f(a)", "[[1] [2] [2]]"},
		{"add#(s(x), y) -> add#(x, y); mul#(s(x), y) -> add#(mul(x, y), y); mul#(s(x), y) -> mul#(x, y)",
			"add(0, y) -> y add(s(x), y) -> s(add(x, y)) mul(0, y) -> 0 mul(s(x), y) -> add(mul(x, y), y)", "[[0] [0] [1 2]]"},
	} {
		if l, e := pairs.Edges(list(t, x.p), system(t, x.r)); fmt.Sprint(l) != x.want || e != api.OK {
			t.Error(x, l, e)
		}
	}
}

// The variables of a left side are not those of a cap, whatever their names are.
func TestEdgesNames(t *testing.T) {
	for _, name := range []string{"x0", "x1", "y0", "y1", "z"} {
		x := v(name)
		p := []api.Rule{
			rule(f("f#", f("g", x), x), f("f#", x, f("g", x))),
			rule(f("f#", f("g", x), f("h", x)), f("f#", x, f("g", x))),
			rule(f("f#", x, f(name, x)), f("f#", f(name, x), f("g", x))),
		}
		if l, e := pairs.Edges(p, nil); fmt.Sprint(l) != "[[0] [0] []]" || e != api.OK {
			t.Error(name, l, e)
		}
	}
}

func TestEdgesAll(t *testing.T) {
	count := map[bool]int{}
	for _, x := range problems(t) {
		want := edgesOf(x.p, x.r)
		if l, e := pairs.Edges(x.p, x.r); fmt.Sprint(l) != fmt.Sprint(want) || e != api.OK {
			t.Error(showRules(x.p), showRules(x.r), l, want, e)
		}
		for i := range x.p {
			for k := range x.p {
				count[slices.Contains(want[i], k)]++
			}
		}
	}
	if count[true] < 500 || count[false] < 500 {
		t.Error("too few of a kind", count)
	}
}

func TestEdgesLimits(t *testing.T) {
	d := dice(4)
	next := d.graph(api.MaxRules, 1, 3)
	if l, e := pairs.Edges(coded(next), nil); fmt.Sprint(l) != fmt.Sprint(next) || e != api.OK {
		t.Error(l, e)
	}
	// There is an edge also if the common instance is too large to be a term.
	p := list(t, "f#(h(x, x, x, x, x, x, x, x), x) -> g#(x)")
	p = append(p, rule(f("g#", v("x")), f("f#", v("x"), wide(3000, v("x")))))
	if l, e := pairs.Edges(p, nil); fmt.Sprint(l) != "[[1] [0]]" || e != api.OK {
		t.Error(l, e)
	}
	// The largest problem.
	r := slices.Repeat(system(t, "s(a, x) -> x"), api.MaxRules)
	p = slices.Repeat([]api.Rule{rule(f("f#", v("x"), f("a")), f("f#", wide(api.MaxSize-2, v("x")), f("a")))}, api.MaxRules)
	l, e := pairs.Edges(p, r)
	if e != api.OK || len(l) != api.MaxRules {
		t.Fatal(len(l), e)
	}
	for _, to := range l {
		if len(to) != api.MaxRules {
			t.Error(to)
		}
	}
}

// P10.6

func TestComponents(t *testing.T) {
	for _, x := range []struct {
		next [][]int
		want string
	}{
		{nil, "[]"},
		{[][]int{{}}, "[]"},
		{[][]int{{0}}, "[[0]]"},
		{[][]int{{1}, {}}, "[]"},
		{[][]int{{1}, {0}}, "[[0 1]]"},
		{[][]int{{1}, {1}}, "[[1]]"},
		{[][]int{{0, 1}, {1}}, "[[0] [1]]"},
		{[][]int{{1}, {2}, {0}}, "[[0 1 2]]"},
		{[][]int{{1}, {2}, {3}, {1}}, "[[1 2 3]]"},
		{[][]int{{3}, {2}, {1}, {0}}, "[[0 3] [1 2]]"},
		{[][]int{{5}, {4, 1}, {2}, {}, {1}, {0, 3}}, "[[0 5] [1 4] [2]]"},
		{[][]int{{4}, {3}, {1, 4}, {2}, {0}}, "[[0 4] [1 2 3]]"},
		{[][]int{{1, 3}, {0, 2}, {}, {2, 3}}, "[[0 1] [3]]"},
	} {
		if l, e := pairs.Components(coded(x.next), nil); fmt.Sprint(l) != x.want || e != api.OK {
			t.Error(x, l, e)
		}
	}
	// The rules matter.
	p := list(t, "f#(a) -> g#(b); g#(a) -> f#(b)")
	if l, e := pairs.Components(p, system(t, "b -> a")); fmt.Sprint(l) != "[[0 1]]" || e != api.OK {
		t.Error(l, e)
	}
	if l, e := pairs.Components(p, nil); len(l) > 0 || e != api.OK {
		t.Error(l, e)
	}
}

func TestComponentsAll(t *testing.T) {
	for _, x := range problems(t) {
		want := componentsOf(edgesOf(x.p, x.r))
		if l, e := pairs.Components(x.p, x.r); fmt.Sprint(l) != fmt.Sprint(want) || e != api.OK {
			t.Error(showRules(x.p), showRules(x.r), l, want, e)
		}
	}
	d := dice(5)
	for i := range 200 {
		n := 1 + d.below(12)
		if i%20 == 0 {
			n = api.MaxRules
		}
		next := d.graph(n, 1+i%3, n)
		want := componentsOf(next)
		if l, e := pairs.Components(coded(next), nil); fmt.Sprint(l) != fmt.Sprint(want) || e != api.OK {
			t.Error(next, l, want, e)
		}
	}
}

// P10.7

func TestChain(t *testing.T) {
	for _, x := range []struct {
		p, r       string
		a, b, most int
		want       string
	}{
		{"f#(x) -> f#(x)", "", 0, 0, 1, "f#(?x0) by / x = ?x0"},
		{"f#(y) -> f#(g(y, y))", "", 0, 0, 1, "f#(g(?x0, ?x0)) by / y = g(?x0, ?x0)"},
		{"f#(x, y, z) -> f#(z, x, z)", "", 0, 0, 1, "f#(?x0, ?x1, ?x0) by / x = ?x0; y = ?x1; z = ?x0"},
		{"f#(s(x)) -> f#(g(x))", "f(s(x)) -> f(g(x)) g(x) -> s(x)", 0, 0, 10, "f#(g(?x0)) by 1[0] / x = ?x0"},
		{"f#(s(x)) -> f#(g(x))", "f(s(x)) -> f(g(x)) g(x) -> s(x)", 0, 0, 2, "f#(g(?x0)) by 1[0] / x = ?x0"},
		{"f#(s(x)) -> f#(g(x))", "f(s(x)) -> f(g(x)) g(x) -> s(x)", 0, 0, 1, ""},
		{"f#(a) -> g#(b, c); g#(x, x) -> f#(x)", "b -> d c -> b c -> d", 0, 1, 10, "g#(b, c) by 1[1] / x = b"},
		{"f#(a) -> g#(b, c); g#(x, x) -> f#(x)", "b -> d c -> e e -> d", 0, 1, 10, "g#(b, c) by 0[0] 1[1] 2[1] / x = d"},
		{"f#(a) -> g#(b, c); g#(x, x) -> f#(x)", "b -> d c -> e e -> d", 0, 1, 5, ""},
		{"f#(a) -> g#(b, c); g#(x, x) -> f#(x)", "b -> d c -> e e -> d", 0, 1, 6, "g#(b, c) by 0[0] 1[1] 2[1] / x = d"},
		// The first of several terms, and the other direction.
		{"f#(x) -> g#(a, x); g#(b, x) -> f#(x)", "a -> c a -> b c -> b", 0, 1, 10, "g#(a, ?x0) by 1[0] / x = ?x0"},
		{"f#(x) -> g#(a, x); g#(b, x) -> f#(x)", "a -> c a -> b c -> b", 1, 0, 10, "f#(?x0) by / x = ?x0"},
		{"f#(x) -> g#(a, x); g#(b, x) -> f#(x)", "a -> c a -> b c -> b", 0, 0, 10, ""},
		{"f#(x) -> g#(a, a); g#(b, x) -> f#(x)", "a -> b", 0, 1, 10, "g#(a, a) by 0[0] / x = a"},
		{"f#(x) -> g#(a, a); g#(x, b) -> f#(x)", "a -> b", 0, 1, 10, "g#(a, a) by 0[1] / x = a"},
		// Variables are not replaced: there is an edge, but no derivation.
		{"f#(s(x)) -> f#(x)", "", 0, 0, 10, ""},
		// An endless derivation.
		{"f#(a) -> f#(b); f#(g(g(g(x)))) -> f#(x)", "b -> g(b)", 0, 1, 4, "f#(b) by 0[0] 0[0 0] 0[0 0 0] / x = b"},
		{"f#(a) -> f#(b); f#(g(g(g(x)))) -> f#(x)", "b -> g(b)", 0, 1, 3, ""},
		{"f#(a) -> f#(b); f#(g(g(g(x)))) -> f#(x)", "b -> g(b)", 0, 0, 50, ""},
	} {
		c, s, ok, e := pairs.Chain(list(t, x.p), system(t, x.r), x.a, x.b, x.most)
		got := ""
		if ok {
			got = showChain(c) + " / " + showSubst(s)
		}
		if got != x.want || e != api.OK {
			t.Errorf("%s, %s, %d, %d, %d: %s, error %d", x.p, x.r, x.a, x.b, x.most, got, e)
		}
		if !ok && (showChain(c) != " by" || len(s) > 0) {
			t.Error("a result where there is none", x, showChain(c), s)
		}
	}
	// Variables of the left side are listed also if they are mapped to themselves.
	p := []api.Rule{rule(f("f#", v("x0"), v("x1")), f("f#", v("x1"), v("x0")))}
	if _, s, ok, e := pairs.Chain(p, nil, 0, 0, 1); !ok || e != api.OK || showSubst(s) != "x0 = ?x0; x1 = ?x1" {
		t.Error(showSubst(s), ok, e)
	}
}

// chainOf looks for a derivation by the text of P10.7.
func chainOf(t *testing.T, x problem, a, b, most int) (string, bool) {
	t.Helper()
	start := canonical(t, x.p[a].Right)
	g, e := derive.Explore(x.r, start, most)
	if e != api.OK {
		t.Fatal(showRules(x.r), show(start), e)
	}
	for _, y := range g.Terms {
		s, ok, e := unify.Match(x.p[b].Left, y)
		if e != api.OK || !ok {
			continue
		}
		c, ok, e := derive.Path(x.r, start, y, most)
		if e != api.OK || !ok {
			t.Fatal(showRules(x.r), show(start), show(y), ok, e)
		}
		return showChain(c) + " / " + showSubst(s), true
	}
	return "", false
}

func TestChainAll(t *testing.T) {
	d := dice(6)
	count := map[bool]int{}
	for _, x := range problems(t) {
		for a := range x.p {
			for b := range x.p {
				most := 1 + d.below(30)
				want, found := chainOf(t, x, a, b, most)
				count[found]++
				c, s, ok, e := pairs.Chain(x.p, x.r, a, b, most)
				if ok != found || e != api.OK || ok && showChain(c)+" / "+showSubst(s) != want {
					t.Error(showRules(x.p), showRules(x.r), a, b, most, showChain(c), showSubst(s), ok, e)
				}
			}
		}
	}
	if count[true] < 100 || count[false] < 100 {
		t.Error("too few of a kind", count)
	}
}

func TestChainLimits(t *testing.T) {
	// A term that is too large is an error, also if the first term is an instance of the left side already.
	p := []api.Rule{rule(f("f#", v("x")), f("f#", wide(1500, f("a")))), rule(f("g#", v("x")), f("f#", f("d", wide(2000, f("b")))))}
	r := []api.Rule{rule(f("d", v("x")), f("h", v("x"), v("x")))}
	for _, most := range []int{1, 2, api.MaxTerms} {
		if c, s, ok, e := pairs.Chain(p, r, 1, 0, most); ok || e != api.ErrLimit || showChain(c) != " by" || len(s) > 0 {
			t.Errorf("%.80s %v %v %d", showChain(c), s, ok, e)
		}
		if _, _, ok, e := pairs.Chain(p, r, 0, 0, most); !ok || e != api.OK {
			t.Error(ok, e)
		}
	}
	// The longest derivation.
	r = system(t, "a -> s(a)")
	p = list(t, "f#(x) -> f#(a)")
	p = append(p, rule(f("f#", tower(150, "s", v("x"))), f("f#", v("x"))))
	if c, s, ok, e := pairs.Chain(p, r, 0, 1, 151); !ok || e != api.OK || len(c.Steps) != 150 || showSubst(s) != "x = a" {
		t.Error(len(c.Steps), showSubst(s), ok, e)
	}
	if _, _, ok, e := pairs.Chain(p, r, 0, 1, 150); ok || e != api.OK {
		t.Error(ok, e)
	}
	if _, _, ok, e := pairs.Chain(p, r, 0, 1, api.MaxTerms); ok || e != api.ErrLimit {
		t.Error(ok, e)
	}
}

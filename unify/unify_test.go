package unify_test

import (
	"fmt"
	"slices"
	"strings"
	"testing"

	"dwindle/api"
	"dwindle/unify"
)

// expectUnifier reports a result of UnifyAll that is not this substitution.
func expectUnifier(t *testing.T, l []api.Rule, want string) {
	t.Helper()
	if s, ok, e := unify.UnifyAll(l); !ok || e != api.OK || showSubst(s) != want {
		t.Errorf("%.80s: %.80s %v %d, expected %.80s", showPairs(l), showSubst(s), ok, e, want)
	}
}

// expectNoUnifier reports a result of UnifyAll that is not false, or not this error.
func expectNoUnifier(t *testing.T, l []api.Rule, want api.Errno) {
	t.Helper()
	if s, ok, e := unify.UnifyAll(l); len(s) > 0 || ok || e != want {
		t.Errorf("%.80s: %.80s %v %d, expected error %d", showPairs(l), showSubst(s), ok, e, want)
	}
}

// P3.2

func TestUnify(t *testing.T) {
	for _, x := range []struct{ a, b, want string }{
		{"c", "c", ""},
		{"x", "x", ""},
		{"f(x, y)", "f(x, y)", ""},
		{"x", "y", "x = ?y"},
		{"y", "x", "y = ?x"},
		{"x", "c", "x = c"},
		{"c", "x", "x = c"},
		{"f(x, g(y))", "f(g(z), x)", "x = g(?z); y = ?z"},
		{"f(g(z), x)", "f(x, g(y))", "x = g(?y); z = ?y"},
		{"f(x, y)", "f(y, x)", "x = ?y"},
		{"f(x, y)", "f(y, z)", "x = ?z; y = ?z"},
		{"f(x, y, x)", "f(y, z, c)", "x = c; y = c; z = c"},
		{"f(x, x)", "f(y, g(z))", "x = g(?z); y = g(?z)"},
		{"f(y, g(z))", "f(x, x)", "x = g(?z); y = g(?z)"},
		{"f(x, x)", "f(g(y), g(z))", "x = g(?z); y = ?z"},
		{"f(x, y, g(x))", "f(g(y), c, g(g(c)))", "x = g(c); y = c"},
		{"f(x, h(x, y), z)", "f(y, z, h(w, c))", "w = c; x = c; y = c; z = h(c, c)"},
		{"f(x9, x1, x0)", "f(a, b, c)", "x0 = c; x1 = b; x9 = a"},
		{"f#(x)", "f#(f(y))", "x = f(?y)"},
	} {
		a, b := parse(t, x.a), parse(t, x.b)
		expectUnifier(t, pairs(a, b), x.want)
		if s, ok, e := unify.Unify(a, b); !ok || e != api.OK || showSubst(s) != x.want {
			t.Error(x, showSubst(s), ok, e)
		}
	}
}

func TestUnifyNone(t *testing.T) {
	for _, x := range [][2]string{
		{"a", "b"}, {"f(x)", "g(x)"}, {"f(x)", "f#(x)"}, {"f(x)", "f(x, y)"}, {"f", "f(x)"}, {"f(a, x)", "f(a)"},
		{"x", "f(x)"}, {"f(x)", "x"}, {"x", "f(a, g(h(x)))"}, {"f(x, x)", "f(a, b)"}, {"f(x, y)", "f(g(y), g(x))"},
		{"f(x, y, x)", "f(y, x, g(y))"}, {"f(x, y, z)", "f(g(y), g(z), g(x))"}, {"f(x, x)", "f(g(y), y)"},
		{"f(x, g(x))", "f(g(y), y)"}, {"f(x, y, a)", "f(y, x, b)"}, {"f(x, f(y, x))", "f(g(y), f(g(z), g(z)))"},
	} {
		a, b := parse(t, x[0]), parse(t, x[1])
		for _, l := range [][]api.Rule{pairs(a, b), pairs(b, a)} {
			expectNoUnifier(t, l, api.OK)
			if s, ok, e := unify.Unify(l[0].Left, l[0].Right); len(s) > 0 || ok || e != api.OK {
				t.Error(x, showSubst(s), ok, e)
			}
		}
	}
	expectNoUnifier(t, pairs(f("f", v("x"), v("x")), f("f", f("x"), f("y"))), api.OK)
	expectUnifier(t, pairs(v("x"), f("g", f("x"))), "x = g(x)")
}

func TestUnifyAll(t *testing.T) {
	for _, x := range []struct{ pairs, want string }{
		{"", ""},
		{"c = c; x = x", ""},
		{"x = y; y = x", "x = ?y"},
		{"x = y; z = x", "x = ?y; z = ?y"},
		{"x = y; x = z", "x = ?z; y = ?z"},
		{"x = y; y = z; z = w", "x = ?w; y = ?w; z = ?w"},
		{"x = f(y); y = g(z); z = c", "x = f(g(c)); y = g(c); z = c"},
		{"x = f(y); x = z", "x = f(?y); z = f(?y)"},
		{"x = f(y); z = x", "x = f(?y); z = f(?y)"},
		{"x = f(y); z = f(w); x = z", "x = f(?w); y = ?w; z = f(?w)"},
		{"x = f(y); z = f(w); z = x", "w = ?y; x = f(?y); z = f(?y)"},
		{"x = f(y); f(z) = x; x = x", "x = f(?y); z = ?y"},
		{"f(x) = f(y); y = c; x = c", "x = c; y = c"},
	} {
		expectUnifier(t, parsePairs(t, x.pairs), x.want)
	}
	for _, x := range []string{
		"a = b", "c = c; a = b", "a = b; x = y", "x = a; x = b", "x = a; y = b; x = y", "x = f(y); y = f(x)",
		"x = f(x); y = f(y); x = y", "x = f(y); y = z; z = x", "x = f(y, c); x = f(c, z); y = z; z = d",
	} {
		expectNoUnifier(t, parsePairs(t, x), api.OK)
	}
}

// specified unifies as the document says it: it looks for the first difference of two terms, binds a variable, applies
// the binding to everything, and starts again.
func specified(l []api.Rule) (map[string]api.Term, bool) {
	s := map[string]api.Term{}
	for _, p := range l {
		for {
			a, b, differ := difference(replace(s, p.Left), replace(s, p.Right))
			if !differ {
				break
			}
			if !a.Var {
				a, b = b, a
			}
			if !a.Var || has(b, a.Name) {
				return nil, false
			}
			for name, x := range s {
				s[name] = replace(map[string]api.Term{a.Name: b}, x)
			}
			s[a.Name] = b
		}
	}
	return s, true
}

// difference returns the first two different subterms that stand at the same place.
func difference(a, b api.Term) (api.Term, api.Term, bool) {
	if a.Var != b.Var || a.Name != b.Name || len(a.Args) != len(b.Args) {
		return a, b, true
	}
	for i := range a.Args {
		if x, y, differ := difference(a.Args[i], b.Args[i]); differ {
			return x, y, true
		}
	}
	return a, b, false
}

// expectSpecified reports a result that is not the specified one, and returns whether there is a unifier.
func expectSpecified(t *testing.T, l []api.Rule) bool {
	t.Helper()
	m, ok := specified(l)
	if !ok {
		expectNoUnifier(t, l, api.OK)
		return false
	}
	var want []api.Bind
	for name, x := range m {
		want = append(want, api.Bind{Name: name, Term: x})
	}
	slices.SortFunc(want, func(a, b api.Bind) int { return strings.Compare(a.Name, b.Name) })
	expectUnifier(t, l, showSubst(want))
	return true
}

func TestUnifySpecified(t *testing.T) {
	list := terms()
	count := 0
	for _, a := range list {
		for _, b := range list {
			if expectSpecified(t, pairs(a, b)) {
				count++
			}
		}
	}
	if count < 300 || len(list)*len(list)-count < 300 {
		t.Error("too few pairs of a kind", count)
	}
}

func TestUnifyAllSpecified(t *testing.T) {
	d := dice(2)
	count := 0
	for range 40000 {
		var l []api.Rule
		for range 1 + d.below(4) {
			l = append(l, api.Rule{Left: d.term(4), Right: d.term(4)})
		}
		if expectSpecified(t, l) {
			count++
		}
	}
	if count < 5000 || count > 35000 {
		t.Error("too few lists of a kind", count)
	}
}

func TestUnifyErrors(t *testing.T) {
	a, b, c := f("a"), f("b"), f("c")
	for _, x := range odd() {
		expectNoUnifier(t, pairs(x.t, x.t), x.e)
		expectNoUnifier(t, pairs(a, b, x.t, c), x.e)
		expectNoUnifier(t, pairs(a, b, c, x.t), x.e)
		if s, ok, e := unify.Unify(x.t, v("x")); len(s) > 0 || ok || e != x.e {
			t.Error(x.name, ok, e)
		}
		if s, ok, e := unify.Unify(v("x"), x.t); len(s) > 0 || ok || e != x.e {
			t.Error(x.name, ok, e)
		}
		for _, y := range odd() {
			expectNoUnifier(t, pairs(x.t, y.t), x.e)
			expectNoUnifier(t, pairs(a, x.t, y.t, a), x.e)
			if _, ok, e := unify.Unify(x.t, y.t); ok || e != x.e {
				t.Error(x.name, y.name, ok, e)
			}
		}
	}
}

func TestUnifyAllLength(t *testing.T) {
	var l []api.Rule
	var want []string
	for i := range api.MaxRules {
		x := fmt.Sprintf("x%02d", i)
		l = append(l, pairs(v(x), f("c"))...)
		want = append(want, x+" = c")
	}
	expectUnifier(t, l, strings.Join(want, "; "))
	expectNoUnifier(t, append(l, pairs(f("c"), f("c"))...), api.ErrLimit)
	expectNoUnifier(t, append(l, pairs(f("a"), f("b"))...), api.ErrLimit)
	expectNoUnifier(t, make([]api.Rule, api.MaxRules+1), api.ErrLimit)
	expectNoUnifier(t, make([]api.Rule, api.MaxRules), api.ErrForm)
}

func TestUnifyTooLarge(t *testing.T) {
	x, y, a, b := v("x"), v("y"), f("a"), f("b")
	s := func(t api.Term) api.Term { return f("s", t) }
	large := wide(api.MaxSize - 1)
	expectUnifier(t, pairs(x, s(y), y, large), "x = "+show(s(large))+"; y = "+show(large))
	expectUnifier(t, pairs(y, large, s(y), x), "x = "+show(s(large))+"; y = "+show(large))
	expectNoUnifier(t, pairs(x, s(s(y)), y, large), api.ErrLimit)
	expectNoUnifier(t, pairs(y, large, s(s(y)), x), api.ErrLimit)
	expectNoUnifier(t, pairs(x, s(y), y, s(large)), api.ErrLimit)
	expectNoUnifier(t, pairs(x, s(s(y)), y, large, a, b), api.OK)
	deep := chain(api.MaxDeep-2, a)
	expectUnifier(t, pairs(x, s(y), y, deep), "x = "+show(s(deep))+"; y = "+show(deep))
	expectNoUnifier(t, pairs(x, s(s(y)), y, deep), api.ErrLimit)
	expectNoUnifier(t, pairs(x, s(s(y)), y, deep, b, a), api.OK)
	expectNoUnifier(t, pairs(x, f("f", y, s(s(y)), y), y, deep), api.ErrLimit)
	expectNoUnifier(t, pairs(x, s(s(y)), y, deep, a, api.Term{}), api.ErrForm)
	// Only the terms of the substitution count, and neither the common instance nor terms of other variables.
	half := wide(api.MaxSize - 100)
	expectUnifier(t, pairs(f("f", x, x), f("f", y, half)), "x = "+show(half)+"; y = "+show(half))
	expectUnifier(t, pairs(x, f("f", v("z"), v("z")), y, half), "x = f(?z, ?z); y = "+show(half))
	// A variable that another one replaces is as large as that one.
	expectNoUnifier(t, pairs(x, y, y, f("f", v("z"), v("z")), v("z"), half), api.ErrLimit)
}

func TestUnifyMemory(t *testing.T) {
	shared := []api.Term{f("g", v("z")), v("w")}
	a := f("f", v("x"), v("y"), v("u"), v("w"))
	b := f("f", f("h", shared...), f("h", shared...), v("x"), f("k", f("c")))
	l := pairs(a, b)
	want := "u = h(g(?z), k(c)); w = k(c); x = h(g(?z), k(c)); y = h(g(?z), k(c))"
	s, _, _ := unify.UnifyAll(l)
	spoil(s[0].Term)
	if showSubst(s) != strings.Replace(want, "h(g(?z), k(c))", "h(spoilt, spoilt)", 1) {
		t.Error("two terms of a result share memory", showSubst(s))
	}
	for _, b := range s {
		spoil(b.Term)
	}
	expectUnifier(t, l, want)
	s, _, _ = unify.UnifyAll(l)
	spoil(a)
	spoil(b)
	if showSubst(s) != want {
		t.Error("the result shares memory with the argument", showSubst(s))
	}
}

// P1: bindings that double the size of a term n times are neither built nor compared node by node.

// double returns pairs that bind the variable prefix i + step to a term over prefix i, which occurs 2^step times in it.
func double(prefix string, from, step, n int) []api.Rule {
	var l []api.Rule
	for i := range n {
		t := v(fmt.Sprint(prefix, from+i*step))
		for range step {
			t = f("f", t, t)
		}
		l = append(l, pairs(v(fmt.Sprint(prefix, from+(i+1)*step)), t)...)
	}
	return l
}

func TestUnifyDoubling(t *testing.T) {
	x, y := double("x", 0, 1, 30), double("y", 0, 1, 30)
	both := slices.Concat(x, y)
	same := append(slices.Clone(both), pairs(v("x30"), v("y30"))...)
	expectNoUnifier(t, both, api.ErrLimit)
	expectNoUnifier(t, same, api.ErrLimit)
	expectNoUnifier(t, append(slices.Clone(same), pairs(v("x0"), f("a"), v("y0"), f("b"))...), api.OK)
	expectNoUnifier(t, append(slices.Clone(same), pairs(v("x0"), v("y30"))...), api.OK)
	expectNoUnifier(t, append(slices.Clone(both), pairs(v("x0"), f("a"), v("y0"), f("b"), v("x30"), v("y30"))...), api.OK)
	expectNoUnifier(t, append(slices.Clone(both), pairs(v("y0"), v("x30"), v("x0"), v("y30"))...), api.OK)
	expectNoUnifier(t, append(slices.Clone(x), pairs(v("x30"), v("x29"))...), api.OK)
	expectNoUnifier(t, append(slices.Clone(x), pairs(v("X"), v("x30"))...), api.ErrLimit) // X comes before the smaller terms
}

// Here a variable always meets a term that is not one.
func TestUnifyDoublingShifted(t *testing.T) {
	l := slices.Concat(double("x", 0, 2, 30), double("y", 1, 2, 30), pairs(v("y1"), f("f", v("y0"), v("y0"))))
	same := append(slices.Clone(l), pairs(v("x60"), f("f", v("y59"), v("y59")))...)
	expectNoUnifier(t, same, api.ErrLimit)
	expectNoUnifier(t, append(slices.Clone(same), pairs(v("x0"), v("y0"))...), api.ErrLimit)
	expectNoUnifier(t, append(slices.Clone(same), pairs(v("x0"), f("g", v("y0")))...), api.OK)
	expectNoUnifier(t, append(slices.Clone(same), pairs(f("c"), v("x0"), v("y0"), f("d"))...), api.OK)
	expectNoUnifier(t, append(slices.Clone(same), pairs(v("x0"), v("y61"))...), api.OK)
}

// comb returns two terms that bind variables to long chains, each one over the variable before it, starting with the
// number of the first one, and the number of the last one.
func comb(prefix string, from int) (api.Term, api.Term, int) {
	const length = 180
	spines := [2]api.Term{f("end"), f("end")}
	for range 18 {
		next := from + 1
		spines[0] = f("f", v(fmt.Sprint(prefix, next)), spines[0])
		spines[1] = f("f", chain(length, v(fmt.Sprint(prefix, from))), spines[1])
		from = next
	}
	return spines[0], spines[1], from
}

// chains returns pairs that bind variables to terms of great depth, and the last variable.
func chains(prefix string, n int) ([]api.Rule, api.Term) {
	var l []api.Rule
	last := 0
	for range n {
		var a, b api.Term
		a, b, last = comb(prefix, last)
		l = append(l, api.Rule{Left: a, Right: b})
	}
	return l, v(fmt.Sprint(prefix, last))
}

func TestUnifyLongChains(t *testing.T) {
	x, lastX := chains("x", 12)
	y, lastY := chains("y", 12)
	l := append(slices.Concat(x, y), pairs(lastX, lastY)...)
	expectNoUnifier(t, l, api.ErrLimit)
	expectNoUnifier(t, append(slices.Clone(l), pairs(v("x0"), v("y0"))...), api.ErrLimit)
	expectNoUnifier(t, append(slices.Clone(l), pairs(v("x0"), f("s", v("y0")))...), api.OK)
	expectNoUnifier(t, append(slices.Clone(l), pairs(v("x0"), lastY)...), api.OK)
	slices.Reverse(l)
	expectNoUnifier(t, l, api.ErrLimit)
}

package unify_test

import (
	"slices"
	"testing"

	"dwindle/api"
	"dwindle/unify"
)

// expectMatch reports a result of Match that is not this substitution.
func expectMatch(t *testing.T, pattern, x api.Term, want string) {
	t.Helper()
	if s, ok, e := unify.Match(pattern, x); !ok || e != api.OK || showSubst(s) != want {
		t.Errorf("%.80s and %.80s: %.80s %v %d, expected %.80s", show(pattern), show(x), showSubst(s), ok, e, want)
	}
}

// expectNoMatch reports a result of Match that is not false, or not this error.
func expectNoMatch(t *testing.T, pattern, x api.Term, want api.Errno) {
	t.Helper()
	if s, ok, e := unify.Match(pattern, x); len(s) > 0 || ok || e != want {
		t.Errorf("%.80s and %.80s: %.80s %v %d, expected error %d", show(pattern), show(x), showSubst(s), ok, e, want)
	}
}

// P3.1

func TestMatch(t *testing.T) {
	for _, x := range []struct{ pattern, t, want string }{
		{"c", "c", ""},
		{"x", "x", "x = ?x"},
		{"x", "y", "x = ?y"},
		{"x", "f(x, x)", "x = f(?x, ?x)"},
		{"f(a, b)", "f(a, b)", ""},
		{"f(z, x, y)", "f(a, b, c)", "x = b; y = c; z = a"},
		{"f(x, y)", "f(y, x)", "x = ?y; y = ?x"},
		{"f(x, g(y))", "f(g(y), g(y))", "x = g(?y); y = ?y"},
		{"f(x, y, x)", "f(y, g(x), y)", "x = ?y; y = g(?x)"},
		{"f(x, f(y, x))", "f(g(z), f(z, g(z)))", "x = g(?z); y = ?z"},
		{"f(x9, x, y, x1, x0)", "f(a, b, c, d, e)", "x = b; x0 = e; x1 = d; x9 = a; y = c"},
		{"f#(x)", "f#(f(x))", "x = f(?x)"},
	} {
		expectMatch(t, parse(t, x.pattern), parse(t, x.t), x.want)
	}
}

func TestMatchNone(t *testing.T) {
	for _, x := range [][2]string{
		{"c", "x"}, {"c", "d"}, {"c", "c(a)"}, {"c(a)", "c"}, {"f(x)", "x"}, {"f(x)", "g(x)"}, {"f(x)", "f#(x)"},
		{"f(x)", "f(x, x)"}, {"f(x, y)", "f(x)"}, {"f(x, x)", "f(a, b)"}, {"f(x, x)", "f(x, y)"}, {"f(x, x)", "f(y, x)"},
		{"f(x, g(x))", "f(a, g(b))"}, {"f(x, g(x))", "f(g(x), x)"}, {"f(x, a)", "f(a, x)"}, {"f(x, x)", "f(g(a), g(y))"},
	} {
		expectNoMatch(t, parse(t, x[0]), parse(t, x[1]), api.OK)
	}
	expectNoMatch(t, f("x"), v("x"), api.OK)
	expectNoMatch(t, f("f", v("y"), v("y")), f("f", v("x"), f("x")), api.OK)
}

func TestMatchLimits(t *testing.T) {
	expectMatch(t, v("x"), wide(api.MaxSize), "x = "+show(wide(api.MaxSize)))
	deep := chain(api.MaxDeep-1, v("x"))
	expectMatch(t, deep, deep, "x = ?x")
	half := wide(api.MaxSize/2 - 1)
	expectMatch(t, f("f", v("x"), v("x")), f("f", half, half), "x = "+show(half))
}

func TestMatchErrors(t *testing.T) {
	for _, x := range odd() {
		expectNoMatch(t, x.t, f("c"), x.e)
		expectNoMatch(t, f("c"), x.t, x.e)
		expectNoMatch(t, v("x"), x.t, x.e)
		for _, y := range odd() {
			expectNoMatch(t, x.t, y.t, x.e)
		}
	}
}

func TestMatchMemory(t *testing.T) {
	shared := []api.Term{f("g", v("z")), f("c")}
	x := f("f", f("h", shared...), f("h", shared...), v("z"))
	pattern := f("f", v("x"), v("y"), v("z"))
	want := "x = h(g(?z), c); y = h(g(?z), c); z = ?z"
	s, _, _ := unify.Match(pattern, x)
	for _, b := range s {
		spoil(b.Term)
	}
	if spoilt := "x = h(spoilt, spoilt); y = h(spoilt, spoilt); z = ?z"; showSubst(s) != spoilt {
		t.Error(showSubst(s))
	}
	s, _, _ = unify.Match(pattern, x)
	spoil(s[0].Term)
	if show(s[1].Term) != "h(g(?z), c)" {
		t.Error("two terms of a result share memory")
	}
	expectMatch(t, pattern, x, want)
	s, _, _ = unify.Match(pattern, x)
	spoil(x)
	if showSubst(s) != want {
		t.Error("the result shares memory with the argument", showSubst(s))
	}
}

// P3.5

// matches looks for a substitution by trying all subterms of t for every variable.
func matches(pattern, t api.Term) bool {
	return slices.ContainsFunc(substs(variables(pattern), subterms(t)), func(m map[string]api.Term) bool {
		return alike(replace(m, pattern), t)
	})
}

func TestMatchTheorem(t *testing.T) {
	list := terms()
	for _, a := range list[:30] {
		list = append(list, f("f", a, v("x")), f("f", f("h", a), a))
	}
	count := 0
	for _, pattern := range list {
		names := variables(pattern)
		slices.Sort(names)
		for _, x := range list {
			s, ok, e := unify.Match(pattern, x)
			if e != api.OK || ok != matches(pattern, x) || !ok && len(s) > 0 {
				t.Fatal(show(pattern), show(x), showSubst(s), ok, e)
			}
			if !ok {
				continue
			}
			count++
			var domain []string
			for _, b := range s {
				domain = append(domain, b.Name)
			}
			if !slices.Equal(domain, names) || !alike(replace(table(s), pattern), x) {
				t.Error(show(pattern), show(x), showSubst(s))
			}
		}
	}
	if count < 500 {
		t.Error("too few matches", count)
	}
}

func TestMatchInstances(t *testing.T) {
	d := dice(1)
	for range 20000 {
		pattern := d.term(4)
		m := map[string]api.Term{}
		for _, name := range variables(pattern) {
			m[name] = d.term(3)
		}
		s, ok, e := unify.Match(pattern, replace(m, pattern))
		if !ok || e != api.OK || len(s) != len(m) {
			t.Fatal(show(pattern), m, showSubst(s), ok, e)
		}
		for _, b := range s {
			if !alike(b.Term, m[b.Name]) {
				t.Error(show(pattern), m, showSubst(s))
			}
		}
	}
}

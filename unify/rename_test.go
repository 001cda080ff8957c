package unify_test

import (
	"fmt"
	"testing"

	"dwindle/api"
	"dwindle/unify"
)

// P3.3

func TestVariant(t *testing.T) {
	for _, x := range []struct {
		a, b string
		want bool
	}{
		{"x", "x", true}, {"x", "y", true}, {"c", "c", true}, {"c", "d", false}, {"x", "c", false}, {"c", "x", false},
		{"f(x, y, x)", "f(z, x, z)", true}, {"f(x, y)", "f(y, x)", true}, {"f(x, y)", "f(x, x)", false}, {"f(x, x)", "f(x, y)", false},
		{"f(x, y, x)", "f(x, y, y)", false}, {"f(x, y, x)", "f(x, y, z)", false}, {"f(x, x0)", "f(x0, x)", true},
		{"f(x)", "g(x)", false}, {"f(x)", "f(x, y)", false}, {"f(x, g(y))", "f(g(y), x)", false}, {"f(x)", "f(g(x))", false},
		{"f(x)", "f#(x)", false}, {"f(x, f(y, x))", "f(y, f(z, y))", true}, {"f(x, f(y, x))", "f(y, f(z, z))", false},
	} {
		if ok, e := unify.Variant(parse(t, x.a), parse(t, x.b)); ok != x.want || e != api.OK {
			t.Error(x, ok, e)
		}
	}
	if ok, e := unify.Variant(v("x"), f("x")); ok || e != api.OK {
		t.Error(ok, e)
	}
	if ok, e := unify.Variant(f("x0"), v("x")); ok || e != api.OK {
		t.Error(ok, e)
	}
}

// isRenaming reports whether a bijection of variables makes two terms equal.
func isRenaming(a, b api.Term) bool {
	there, back := map[string]string{}, map[string]string{}
	var same func(a, b api.Term) bool
	same = func(a, b api.Term) bool {
		if a.Var != b.Var || len(a.Args) != len(b.Args) || !a.Var && a.Name != b.Name {
			return false
		}
		if a.Var && there[a.Name] == "" && back[b.Name] == "" {
			there[a.Name], back[b.Name] = b.Name, a.Name
		}
		for i := range a.Args {
			if !same(a.Args[i], b.Args[i]) {
				return false
			}
		}
		return !a.Var || there[a.Name] == b.Name && back[b.Name] == a.Name
	}
	return same(a, b)
}

func TestVariantAll(t *testing.T) {
	list := terms()
	for _, a := range list[:20] {
		list = append(list, f("f", a, f("f", v("x"), a)), f("f", a, f("f", v("y"), a)))
	}
	for _, a := range list {
		for _, b := range list {
			if ok, e := unify.Variant(a, b); ok != isRenaming(a, b) || e != api.OK {
				t.Error(show(a), show(b), ok, e)
			}
		}
	}
}

func TestVariantErrors(t *testing.T) {
	for _, x := range odd() {
		for _, y := range odd() {
			if ok, e := unify.Variant(x.t, y.t); ok || e != x.e {
				t.Error(x.name, y.name, ok, e)
			}
		}
		if ok, e := unify.Variant(x.t, f("c")); ok || e != x.e {
			t.Error(x.name, ok, e)
		}
		if ok, e := unify.Variant(f("c"), x.t); ok || e != x.e {
			t.Error(x.name, ok, e)
		}
	}
}

// P3.4

func TestApart(t *testing.T) {
	for _, x := range []struct{ a, b, wantA, wantB string }{
		{"c", "d", "c", "d"},
		{"x", "x", "?x0", "?y0"},
		{"x", "y", "?x0", "?y0"},
		{"f(y, x)", "g(x)", "f(?x0, ?x1)", "g(?y0)"},
		{"f(x, y, x)", "f(z, z, y)", "f(?x0, ?x1, ?x0)", "f(?y0, ?y0, ?y1)"},
		{"f(y1, g(x1), x0)", "f(y1, g(y0), x0)", "f(?x0, g(?x1), ?x2)", "f(?y0, g(?y1), ?y2)"},
		{"f(x1, x0)", "f(y1, y0)", "f(?x0, ?x1)", "f(?y0, ?y1)"},
		{"f#(x)", "c", "f#(?x0)", "c"},
	} {
		if a, b, e := unify.Apart(parse(t, x.a), parse(t, x.b)); e != api.OK || show(a) != x.wantA || show(b) != x.wantB {
			t.Error(x, show(a), show(b), e)
		}
	}
	// Symbols keep their names.
	if a, b, e := unify.Apart(f("x", v("x"), f("x0")), f("y0", v("x"), f("x"), f("x0"))); e != api.OK || show(a) != "x(?x0, x0)" || show(b) != "y0(?y0, x, x0)" {
		t.Error(show(a), show(b), e)
	}
}

// many returns a term with so many variables, with numbers that fall.
func many(n int) api.Term {
	t := f("end")
	for i := 0; i < n; {
		node := f("f", t)
		for ; i < n && len(node.Args) < api.MaxArity; i++ {
			node.Args = append(node.Args, v(fmt.Sprint("z", n-i)))
		}
		t = node
	}
	return t
}

func TestApartMany(t *testing.T) {
	for _, n := range []int{0, 1, 2, 9, 10, 11, 12, 99, 100, 101, 1000} {
		x := many(n)
		a, b, e := unify.Apart(x, f("g", x, x))
		if e != api.OK || !alike(a, numbered(x, "x")) || !alike(b, numbered(f("g", x, x), "y")) {
			t.Error(n, e, show(b))
		}
	}
	x := wide(api.MaxSize)
	if a, b, e := unify.Apart(x, chain(api.MaxDeep-1, v("x"))); e != api.OK || !alike(a, x) || !alike(b, chain(api.MaxDeep-1, v("y0"))) {
		t.Error(e)
	}
}

func TestApartErrors(t *testing.T) {
	check := func(x, y api.Term, want api.Errno) {
		t.Helper()
		if a, b, e := unify.Apart(x, y); e != want || !alike(a, api.Term{}) || !alike(b, api.Term{}) {
			t.Error(show(a), show(b), e, want)
		}
	}
	for _, x := range odd() {
		check(x.t, f("c"), x.e)
		check(f("c"), x.t, x.e)
		for _, y := range odd() {
			check(x.t, y.t, x.e)
		}
	}
}

func TestApartMemory(t *testing.T) {
	x := f("f", v("x"), f("g", f("c"), v("y")))
	a, b, _ := unify.Apart(x, x)
	spoil(a)
	if show(x) != "f(?x, g(c, ?y))" || show(b) != "f(?y0, g(c, ?y1))" {
		t.Error("results share memory", show(x), show(b))
	}
	spoil(b)
	if show(x) != "f(?x, g(c, ?y))" {
		t.Error("a result shares memory with an argument", show(x))
	}
}

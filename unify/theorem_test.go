package unify_test

import (
	"fmt"
	"slices"
	"testing"

	"dwindle/api"
	"dwindle/unify"
)

// P3.6

// images are what the variables are replaced by when common instances are looked for.
func images() []api.Term {
	return []api.Term{v("x"), v("y"), f("c"), f("h", v("z")), f("h", f("c")), f("f", f("c"), v("x"))}
}

func TestMostGeneral(t *testing.T) {
	count := 0
	list := terms()
	candidates := substs([]string{"x", "y", "z"}, images())
	for _, a := range list {
		for _, b := range list {
			s, ok, e := unify.Unify(a, b)
			if e != api.OK {
				t.Fatal(show(a), show(b), e)
			}
			sigma := table(s)
			if ok && !alike(replace(sigma, a), replace(sigma, b)) {
				t.Error("not a unifier", show(a), show(b), showSubst(s))
			}
			for _, m := range candidates {
				if alike(replace(m, a), replace(m, b)) {
					count++
					expectGeneral(t, a, b, sigma, ok, m)
				}
			}
		}
	}
	if count < 5000 {
		t.Error("too few unifiers", count)
	}
}

// expectGeneral reports a unifier m of which the unifier sigma is not a more general one.
func expectGeneral(t *testing.T, a, b api.Term, sigma map[string]api.Term, ok bool, m map[string]api.Term) {
	t.Helper()
	if !ok {
		t.Fatal("no unifier", show(a), show(b), m)
	}
	for _, name := range variables(a, b) {
		if !alike(replace(m, replace(sigma, v(name))), replace(m, v(name))) {
			t.Error("not most general", show(a), show(b), sigma, m)
		}
	}
}

// Terms that are made from instances have a unifier, which is idempotent and lists what it changes.
func TestUnifyInstances(t *testing.T) {
	d := dice(3)
	for range 20000 {
		x := d.term(4)
		y, m := d.cut(x)
		s, ok, e := unify.Unify(x, y)
		if !ok || e != api.OK || !alike(replace(table(s), x), replace(table(s), y)) {
			t.Fatal(show(x), show(y), showSubst(s), ok, e)
		}
		expectGeneral(t, x, y, table(s), ok, m)
		for i, b := range s {
			if alike(b.Term, v(b.Name)) || !alike(replace(table(s), b.Term), b.Term) || i > 0 && s[i-1].Name >= b.Name {
				t.Error(show(x), show(y), showSubst(s))
			}
		}
	}
}

// cut returns a term with some subterms replaced by new variables, and the terms of these variables.
func (d *dice) cut(t api.Term) (api.Term, map[string]api.Term) {
	m := map[string]api.Term{}
	var visit func(t api.Term) api.Term
	visit = func(t api.Term) api.Term {
		if d.below(4) == 0 {
			i := 0
			for i < len(m) && !alike(m[fmt.Sprint("v", i)], t) {
				i++
			}
			name := fmt.Sprint("v", i)
			m[name] = t
			return v(name)
		}
		result := api.Term{Name: t.Name, Var: t.Var}
		for _, x := range t.Args {
			result.Args = append(result.Args, visit(x))
		}
		return result
	}
	x := visit(t)
	return x, m
}

// P3.7

// expectSymmetry reports terms that are unified with another result when they are exchanged.
func expectSymmetry(t *testing.T, a, b api.Term) {
	t.Helper()
	s, ok, e := unify.Unify(a, b)
	u, ok2, e2 := unify.Unify(b, a)
	if ok != ok2 && e == api.OK && e2 == api.OK {
		t.Error(show(a), show(b), ok, ok2)
	}
	if !ok || !ok2 {
		return
	}
	x, y := replace(table(s), a), replace(table(u), b)
	if same, e := unify.Variant(x, y); !same || e != api.OK || !isRenaming(x, y) {
		t.Error(show(a), show(b), showSubst(s), showSubst(u))
	}
}

func TestSymmetry(t *testing.T) {
	list := terms()
	for _, a := range list {
		for _, b := range list {
			expectSymmetry(t, a, b)
		}
	}
	d := dice(4)
	for range 20000 {
		expectSymmetry(t, f("f", d.term(4), d.term(3)), f("f", d.term(3), d.term(4)))
	}
}

// P1, P2 and rule 4

// answers writes the results of all functions.
func answers(a, b api.Term) string {
	var l []any
	add := func(s []api.Bind, ok bool, e api.Errno) { l = append(l, showSubst(s), ok, e, len(s)) }
	add(unify.Match(a, b))
	add(unify.Unify(a, b))
	add(unify.UnifyAll(nil))
	add(unify.UnifyAll(pairs(b, a, v("x"), b, a, v("y"))))
	ok, e := unify.Variant(a, b)
	l = append(l, ok, e)
	x, y, e := unify.Apart(a, b)
	return fmt.Sprintln(append(l, show(x), show(y), e)...)
}

// No function panics, depends on anything but its arguments, or changes them.
func TestAnyArguments(t *testing.T) {
	list := slices.Concat(terms()[:12], []api.Term{many(30), {Name: "x", Args: []api.Term{{}}}})
	for _, x := range odd() {
		if x.name != "ring" {
			list = append(list, x.t)
		}
	}
	for _, a := range list {
		for _, b := range list {
			before := show(a) + show(b)
			first := answers(a, b)
			if first != answers(a, b) {
				t.Errorf("different results: %.60s and %.60s", show(a), show(b))
			}
			if show(a)+show(b) != before {
				t.Errorf("an argument has changed: %.60s and %.60s", show(a), show(b))
			}
		}
	}
}

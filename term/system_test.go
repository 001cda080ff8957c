package term_test

import (
	"slices"
	"testing"

	"dwindle/api"
	"dwindle/term"
)

// rules returns the rules whose sides are given in turn.
func rules(l ...api.Term) []api.Rule {
	var r []api.Rule
	for i := 0; i < len(l); i += 2 {
		r = append(r, api.Rule{Left: l[i], Right: l[i+1]})
	}
	return r
}

// addition returns the system of the document's first example.
func addition() []api.Rule {
	return rules(
		f("add", f("0"), v("y")), v("y"),
		f("add", f("s", v("x")), v("y")), f("s", f("add", v("x"), v("y"))),
	)
}

// oddSystems returns rules that are no systems, with their errors.
func oddSystems() []struct {
	name string
	r    []api.Rule
	e    api.Errno
} {
	large := wide(api.MaxSize+1, f("c"))
	a := f("a")
	return []struct {
		name string
		r    []api.Rule
		e    api.Errno
	}{
		{"65 rules", slices.Repeat(rules(a, a), api.MaxRules+1), api.ErrLimit},
		{"65 malformed rules", make([]api.Rule, api.MaxRules+1), api.ErrLimit},
		{"malformed left side", rules(a, a, f(""), a), api.ErrForm},
		{"malformed right side", rules(a, a, a, f("")), api.ErrForm},
		{"left side too large", rules(large, f("")), api.ErrLimit},
		{"right side too large", rules(a, large, f(""), a), api.ErrLimit},
		{"the left side of the first rule first", rules(f(""), large), api.ErrForm},
		{"rule by rule", rules(a, f(""), large, a), api.ErrForm},
		{"terms before names", rules(f("a#"), a, f("b"), large), api.ErrLimit},
		{"terms before variables", rules(v("x"), a, f("b"), f("")), api.ErrForm},
		{"marked root", rules(f("a#"), a), api.ErrName},
		{"marked right side", rules(a, f("b", f("c#"))), api.ErrName},
		{"two arities in a term", rules(f("f", f("f")), a), api.ErrName},
		{"two arities in a rule", rules(f("f", a), f("f", a, a)), api.ErrName},
		{"two arities in two rules", rules(f("f", a), a, a, f("f")), api.ErrName},
		{"names before variables", rules(v("x"), a, f("b"), f("c#")), api.ErrName},
		{"variable on the left", rules(a, a, v("x"), a), api.ErrVar},
		{"variable on both sides", rules(v("x"), v("x")), api.ErrVar},
		{"extra variable", rules(f("f", v("x")), f("f", v("y"))), api.ErrVar},
		{"extra variable below", rules(a, a, f("g", v("x")), f("f", v("x"), f("g", v("z")))), api.ErrVar},
		{"variable of another rule", rules(f("f", v("y")), a, f("g", v("x")), v("y")), api.ErrVar},
		{"the symbol y is not the variable y", rules(f("f", f("y")), v("y")), api.ErrVar},
	}
}

// P1.8

func TestCheckSystem(t *testing.T) {
	for _, r := range [][]api.Rule{
		nil, {}, addition(),
		rules(f("x", v("x")), f("x", f("x", v("x")))),
		rules(f("f", v("x")), v("x"), f("g", v("x"), v("x")), f("c")),
		slices.Repeat(addition(), api.MaxRules/2),
		rules(chain(199, f("c")), f("c")),
	} {
		expect(t, "system", term.CheckSystem(r), api.OK)
	}
	for _, x := range oddSystems() {
		expect(t, x.name, term.CheckSystem(x.r), x.e)
	}
}

func TestSymbols(t *testing.T) {
	for _, x := range []struct {
		r    []api.Rule
		want []api.Symbol
	}{
		{nil, nil},
		{addition(), []api.Symbol{{Name: "0"}, {Name: "add", Arity: 2}, {Name: "s", Arity: 1}}},
		{rules(f("b", v("x")), f("a")), []api.Symbol{{Name: "a"}, {Name: "b", Arity: 1}}},
		{rules(f("b"), f("x", f("B"), f("_"), f("b'")), f("x", v("b"), v("x"), v("x")), v("x")), []api.Symbol{{Name: "B"}, {Name: "_"}, {Name: "b"}, {Name: "b'"}, {Name: "x", Arity: 3}}},
	} {
		if l, e := term.Symbols(x.r); !slices.Equal(l, x.want) || e != api.OK {
			t.Error(l, e)
		}
	}
	for _, x := range oddSystems() {
		if l, e := term.Symbols(x.r); len(l) > 0 || e != x.e {
			t.Error(x.name, l, e)
		}
	}
}

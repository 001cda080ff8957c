package read_test

import (
	"slices"
	"strings"
	"testing"

	"dwindle/api"
	"dwindle/read"
)

// P2.2

func TestTermText(t *testing.T) {
	for _, x := range []struct {
		t api.Term
		s string
	}{
		{v("x"), "x"},
		{f("c"), "c"},
		{f("x#", v("x")), "x#(x)"},
		{f("c", []api.Term{}...), "c"},
		{f("x", v("x"), f("x")), "x(x, x)"},
		{f("f", v("x"), f("g", f("c"), v("y'")), f("h#", f("0"))), "f(x, g(c, y'), h#(0))"},
		{wide(9, 2), "w8(w0, w0, w0, w0, w0, w0, w0, w0)"},
	} {
		if s, e := read.TermText(x.t); s != x.s || e != api.OK {
			t.Error(s, e, x.s)
		}
	}
	for _, x := range oddTerms() {
		if s, e := read.TermText(x.t); s != "" || e != x.e {
			t.Errorf("%s: %.40q, error %d", x.name, s, e)
		}
	}
	if s, e := read.TermText(wide(api.MaxSize, api.MaxName)); len(s) != api.MaxSize*(api.MaxName+2)-2 || e != api.OK {
		t.Error(len(s), e)
	}
}

// P2.4

func TestSystemText(t *testing.T) {
	for _, x := range []struct {
		r []api.Rule
		s string
	}{
		{nil, "(RULES\n)\n"},
		{rules(f("b"), f("a")), "(RULES\n  b -> a\n)\n"},
		{rules(f("f", v("x")), v("x")), "(VAR x)\n(RULES\n  f(x) -> x\n)\n"},
		{rules(f("add", f("0"), v("y")), v("y"), f("add", f("s", v("x")), v("y")), f("s", f("add", v("x"), v("y")))),
			"(VAR x y)\n(RULES\n  add(0, y) -> y\n  add(s(x), y) -> s(add(x, y))\n)\n"},
		{rules(f("f", v("b"), v("_"), v("a'")), v("b"), f("g", v("B"), v("a"), v("0"), v("b")), f("a0")),
			"(VAR 0 B _ a a' b)\n(RULES\n  f(b, _, a') -> b\n  g(B, a, 0, b) -> a0\n)\n"},
		{rules(f("RULES", v("VAR")), v("VAR")), "(VAR VAR)\n(RULES\n  RULES(VAR) -> VAR\n)\n"},
	} {
		if s, e := read.SystemText(x.r); s != x.s || e != api.OK {
			t.Errorf("%q, error %d, expected %q", s, e, x.s)
		}
	}
}

func TestSystemTextErrors(t *testing.T) {
	for _, x := range []struct {
		name string
		r    []api.Rule
		e    api.Errno
	}{
		{"65 rules", make([]api.Rule, api.MaxRules+1), api.ErrLimit},
		{"malformed", rules(f("f", v("f")), f("")), api.ErrForm},
		{"too large", rules(f("f", v("f")), wide(api.MaxSize+1, 1)), api.ErrLimit},
		{"marked", rules(f("f", v("f")), f("a#")), api.ErrName},
		{"two arities", rules(f("a"), f("a", f("b"))), api.ErrName},
		{"variable on the left", rules(v("x"), f("a")), api.ErrVar},
		{"extra variable", rules(f("f", v("f")), v("x")), api.ErrVar},
		{"one name", rules(f("f", v("f")), f("a")), api.ErrName},
		{"one name, below", rules(f("f", v("x")), f("g", f("x"))), api.ErrName},
		{"one name, in two rules", rules(f("f", v("x"), v("y")), v("y"), f("a"), f("x")), api.ErrName},
		{"one name, on the left", rules(f("y", f("a")), f("a"), f("f", v("x"), v("y"), v("z")), v("y")), api.ErrName},
	} {
		if s, e := read.SystemText(x.r); s != "" || e != x.e {
			t.Errorf("%s: %q, error %d", x.name, s, e)
		}
	}
}

func TestSystemTextLimit(t *testing.T) {
	r := slices.Repeat(rules(f("a"), wide(api.MaxSize, api.MaxName)), 10)
	long, e := read.SystemText(r)
	if e != api.OK {
		t.Fatal(e)
	}
	rest := api.MaxText - len(long) - len("  a -> \n")
	for more, want := range []api.Errno{api.OK, api.ErrLimit} {
		bytes := rest + more // of the last right side: a name, and 26 bytes for each node below it
		last := f(strings.Repeat("c", bytes%26), wide(bytes/26, api.MaxName))
		s, e := read.SystemText(append(slices.Clone(r), rules(f("a"), last)...))
		if e != want || e == api.OK && len(s) != api.MaxText || e != api.OK && s != "" {
			t.Error(more, len(s), e)
		}
	}
	if s, e := read.SystemText(slices.Repeat(rules(f("a"), wide(api.MaxSize, api.MaxName)), api.MaxRules)); s != "" || e != api.ErrLimit {
		t.Error(len(s), e)
	}
}

func TestSystemTextMemory(t *testing.T) {
	r := rules(f("f", v("y"), v("x")), v("y"), f("a"), f("b"))
	for range 3 {
		if s, e := read.SystemText(r); s != "(VAR x y)\n(RULES\n  f(y, x) -> y\n  a -> b\n)\n" || e != api.OK {
			t.Error(s, e)
		}
	}
	if !sameRules(r, rules(f("f", v("y"), v("x")), v("y"), f("a"), f("b"))) {
		t.Error("an argument has changed", r)
	}
}

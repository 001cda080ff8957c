package term_test

import (
	"fmt"
	"strings"
	"testing"

	"dwindle/api"
	"dwindle/term"
)

// v returns a variable.
func v(name string) api.Term { return api.Term{Name: name, Var: true} }

// f returns a function symbol applied to arguments.
func f(name string, args ...api.Term) api.Term { return api.Term{Name: name, Args: args} }

// chain returns a constant below so many unary symbols.
func chain(n int, t api.Term) api.Term {
	for range n {
		t = f("s", t)
	}
	return t
}

// wide returns a term with exactly n nodes and a small depth, in which x occurs as often as possible.
func wide(n int, x api.Term) api.Term {
	if n == 1 {
		return x
	}
	rest := n - 1
	count := min(rest, api.MaxArity)
	args := make([]api.Term, count)
	for i := range args {
		share := rest / (count - i)
		args[i] = wide(share, x)
		rest -= share
	}
	return f("w", args...)
}

// alike reports whether two terms are equal, with code that shares nothing with the package.
func alike(a, b api.Term) bool {
	return show(a) == show(b)
}

// show writes any term.
func show(t api.Term) string {
	s := fmt.Sprintf("%q", t.Name)
	if t.Var {
		s = "?" + s
	}
	if len(t.Args) == 0 {
		return s
	}
	var l []string
	for _, x := range t.Args {
		l = append(l, show(x))
	}
	return s + "(" + strings.Join(l, " ") + ")"
}

// showSubst writes any substitution.
func showSubst(s []api.Bind) string {
	var l []string
	for _, b := range s {
		l = append(l, fmt.Sprintf("%q=%s", b.Name, show(b.Term)))
	}
	return strings.Join(l, " ")
}

// spoil overwrites all memory that a term holds.
func spoil(t api.Term) {
	for i := range t.Args {
		spoil(t.Args[i])
		t.Args[i] = api.Term{Name: "spoilt"}
	}
	l := t.Args[:cap(t.Args)]
	for i := range l {
		l[i] = api.Term{Name: "spoilt"}
	}
}

// grow returns terms and what h and f make of them.
func grow(small []api.Term) []api.Term {
	list := append([]api.Term{}, small...)
	for _, x := range small {
		list = append(list, f("h", x))
		for _, y := range small {
			list = append(list, f("f", x, y))
		}
	}
	return list
}

// terms returns all terms of depth at most 2 over c, h and f with these variables.
func terms(vars ...string) []api.Term {
	flat := []api.Term{f("c")}
	for _, x := range vars {
		flat = append(flat, v(x))
	}
	return grow(flat)
}

// deepTerms returns all terms of depth at most 3 over c, h and f with these variables.
func deepTerms(vars ...string) []api.Term {
	return grow(terms(vars...))
}

// odd returns terms that are not valid, with the error of each.
func odd() []struct {
	name string
	t    api.Term
	e    api.Errno
} {
	nine := make([]api.Term, api.MaxArity+1)
	for i := range nine {
		nine[i] = f("c")
	}
	return []struct {
		name string
		t    api.Term
		e    api.Errno
	}{
		{"zero value", api.Term{}, api.ErrForm},
		{"variable without a name", v(""), api.ErrForm},
		{"marked variable", v("x#"), api.ErrForm},
		{"variable with an argument", api.Term{Name: "x", Var: true, Args: []api.Term{v("y")}}, api.ErrForm},
		{"long variable", v(strings.Repeat("a", 25)), api.ErrForm},
		{"symbol with a blank", f("a b"), api.ErrForm},
		{"two marks", f("f##"), api.ErrForm},
		{"nine arguments", f("f", nine...), api.ErrForm},
		{"malformed below", f("f", v("x"), f("g", f("h", f("")))), api.ErrForm},
		{"too deep", chain(api.MaxDeep, f("c")), api.ErrLimit},
		{"too large", wide(api.MaxSize+1, f("c")), api.ErrLimit},
		{"too large and malformed", f("f", wide(api.MaxSize+1, f("c")), v("-")), api.ErrForm},
		{"too deep and malformed", chain(300, v("-")), api.ErrForm},
		{"both sizes", f("f", chain(5000, f("c")), f("c")), api.ErrLimit},
	}
}

// expect reports a difference of errors.
func expect(t *testing.T, what string, got, want api.Errno) {
	t.Helper()
	if got != want {
		t.Errorf("%s: error %d, expected %d", what, got, want)
	}
}

// expectTerm reports a difference of results.
func expectTerm(t *testing.T, what string, got api.Term, e api.Errno, want api.Term) {
	t.Helper()
	if e != api.OK || !alike(got, want) {
		t.Errorf("%s: %s and error %d, expected %s", what, show(got), e, show(want))
	}
}

// expectNone reports an error that is not the expected one, or a result beside it.
func expectNone(t *testing.T, what string, got api.Term, e, want api.Errno) {
	t.Helper()
	if e != want || !alike(got, api.Term{}) {
		t.Errorf("%s: %s and error %d, expected error %d", what, show(got), e, want)
	}
}

// apply applies a substitution that must be possible.
func apply(t *testing.T, s []api.Bind, x api.Term) api.Term {
	t.Helper()
	y, e := term.Apply(s, x)
	expect(t, "Apply", e, api.OK)
	return y
}

package read_test

import (
	"fmt"
	"strconv"
	"strings"
	"testing"

	"dwindle/api"
	"dwindle/read"
	"dwindle/term"
)

// v returns a variable.
func v(name string) api.Term { return api.Term{Name: name, Var: true} }

// f returns a function symbol applied to arguments.
func f(name string, args ...api.Term) api.Term { return api.Term{Name: name, Args: args} }

// rules returns the rules whose sides are given in turn.
func rules(l ...api.Term) []api.Rule {
	var r []api.Rule
	for i := 0; i < len(l); i += 2 {
		r = append(r, api.Rule{Left: l[i], Right: l[i+1]})
	}
	return r
}

// deep returns the source of a constant below so many unary symbols.
func deep(n int) string {
	return strings.Repeat("s(", n) + "c" + strings.Repeat(")", n)
}

// wide returns a ground term with n nodes and a small depth. Each name has so many bytes and ends with the arity, so that
// no symbol has two arities; the canonical form has n * (length + 2) - 2 bytes.
func wide(n, length int) api.Term {
	rest := n - 1
	count := min(rest, api.MaxArity)
	t := f(strings.Repeat("w", length-1) + strconv.Itoa(count))
	for i := range count {
		share := rest / (count - i)
		t.Args = append(t.Args, wide(share, length))
		rest -= share
	}
	return t
}

// sameRules reports whether two systems are equal.
func sameRules(a, b []api.Rule) bool {
	if len(a) != len(b) {
		return false
	}
	for i := range a {
		if !term.Equal(a[i].Left, b[i].Left) || !term.Equal(a[i].Right, b[i].Right) {
			return false
		}
	}
	return true
}

// oddTerms returns terms that are not valid, with the error of each.
func oddTerms() []struct {
	name string
	t    api.Term
	e    api.Errno
} {
	long := f("c")
	for range api.MaxDeep {
		long = f("s", long)
	}
	return []struct {
		name string
		t    api.Term
		e    api.Errno
	}{
		{"zero value", api.Term{}, api.ErrForm},
		{"marked variable", v("x#"), api.ErrForm},
		{"variable with an argument", api.Term{Name: "x", Var: true, Args: []api.Term{v("y")}}, api.ErrForm},
		{"symbol with a blank", f("f", f("a b")), api.ErrForm},
		{"long name", f(strings.Repeat("a", api.MaxName+1)), api.ErrForm},
		{"nine arguments", f("f", make([]api.Term, api.MaxArity+1)...), api.ErrForm},
		{"too deep", long, api.ErrLimit},
		{"too large", wide(api.MaxSize+1, 1), api.ErrLimit},
		{"too large and malformed", f("f", wide(api.MaxSize, 1), v("-")), api.ErrForm},
	}
}

// expectTerm reports a difference of the results of read.Term.
func expectTerm(t *testing.T, s string, vars []string, want api.Term) {
	t.Helper()
	if x, at, e := read.Term(s, vars); !term.Equal(x, want) || at != 0 || e != api.OK {
		t.Errorf("%.60q: %.60s, offset %d, error %d", s, fmt.Sprint(x), at, e)
	}
}

// expectNoTerm reports an error of read.Term that is not the expected one, or a result beside it.
func expectNoTerm(t *testing.T, s string, vars []string, wantAt int, want api.Errno) {
	t.Helper()
	if x, at, e := read.Term(s, vars); !term.Equal(x, api.Term{}) || at != wantAt || e != want {
		t.Errorf("%.60q: %.60s, offset %d, error %d; expected offset %d, error %d", s, fmt.Sprint(x), at, e, wantAt, want)
	}
}

// expectSystem reports a difference of the results of read.System.
func expectSystem(t *testing.T, s string, want []api.Rule) {
	t.Helper()
	if r, at, e := read.System(s); !sameRules(r, want) || at != 0 || e != api.OK {
		t.Errorf("%.60q: %.60s, offset %d, error %d", s, fmt.Sprint(r), at, e)
	}
}

// expectNoSystem reports an error of read.System that is not the expected one, or a result beside it.
func expectNoSystem(t *testing.T, s string, wantAt int, want api.Errno) {
	t.Helper()
	if r, at, e := read.System(s); len(r) > 0 || at != wantAt || e != want {
		t.Errorf("%.60q: %.60s, offset %d, error %d; expected offset %d, error %d", s, fmt.Sprint(r), at, e, wantAt, want)
	}
}

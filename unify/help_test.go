package unify_test

import (
	"fmt"
	"slices"
	"strings"
	"testing"

	"dwindle/api"
	"dwindle/read"
)

// v returns a variable.
func v(name string) api.Term { return api.Term{Name: name, Var: true} }

// f returns a function symbol applied to arguments.
func f(name string, args ...api.Term) api.Term { return api.Term{Name: name, Args: args} }

// parse returns the term of a source, in which the letters from u to z, alone or with a digit, are variables.
func parse(t *testing.T, s string) api.Term {
	t.Helper()
	var vars []string
	for c := 'u'; c <= 'z'; c++ {
		vars = append(vars, string(c))
		for i := range 10 {
			vars = append(vars, fmt.Sprint(string(c), i))
		}
	}
	x, at, e := read.Term(s, vars)
	if e != api.OK {
		t.Fatal(s, at, e)
	}
	return x
}

// pairs returns the pairs whose sides are given in turn.
func pairs(l ...api.Term) []api.Rule {
	var r []api.Rule
	for i := 0; i < len(l); i += 2 {
		r = append(r, api.Rule{Left: l[i], Right: l[i+1]})
	}
	return r
}

// parsePairs returns the pairs of sources like "x = f(y), y = c".
func parsePairs(t *testing.T, s string) []api.Rule {
	t.Helper()
	var r []api.Rule
	for _, x := range strings.Split(s, "; ") {
		if left, right, ok := strings.Cut(x, " = "); ok {
			r = append(r, pairs(parse(t, left), parse(t, right))...)
		}
	}
	return r
}

// chain returns a term below so many unary symbols.
func chain(n int, t api.Term) api.Term {
	for range n {
		t = f("s", t)
	}
	return t
}

// wide returns a ground term with exactly n nodes and a small depth.
func wide(n int) api.Term {
	rest := n - 1
	count := min(rest, api.MaxArity)
	t := f("w")
	for i := range count {
		share := rest / (count - i)
		t.Args = append(t.Args, wide(share))
		rest -= share
	}
	return t
}

// show writes any term; variables are underlined by a question mark.
func show(t api.Term) string {
	s := t.Name
	if t.Var {
		s = "?" + s
	}
	if len(t.Args) == 0 {
		return s
	}
	var l []string
	for _, x := range t.Args {
		l = append(l, show(x))
	}
	return s + "(" + strings.Join(l, ", ") + ")"
}

// showSubst writes any substitution.
func showSubst(s []api.Bind) string {
	var l []string
	for _, b := range s {
		l = append(l, b.Name+" = "+show(b.Term))
	}
	return strings.Join(l, "; ")
}

// showPairs writes pairs.
func showPairs(l []api.Rule) string {
	var r []string
	for _, x := range l {
		r = append(r, show(x.Left)+" = "+show(x.Right))
	}
	return strings.Join(r, "; ")
}

// alike reports whether two terms are equal, with code that shares nothing with the package.
func alike(a, b api.Term) bool {
	return a.Name == b.Name && a.Var == b.Var && slices.EqualFunc(a.Args, b.Args, alike)
}

// has reports whether a variable occurs in a term.
func has(t api.Term, name string) bool {
	return t.Var && t.Name == name || slices.ContainsFunc(t.Args, func(x api.Term) bool { return has(x, name) })
}

// variables returns the variables of terms in the order of their first occurrence.
func variables(l ...api.Term) []string {
	var names []string
	for _, t := range l {
		if t.Var && !slices.Contains(names, t.Name) {
			names = append(names, t.Name)
		}
		for _, x := range variables(t.Args...) {
			if !slices.Contains(names, x) {
				names = append(names, x)
			}
		}
	}
	return names
}

// replace replaces variables.
func replace(m map[string]api.Term, t api.Term) api.Term {
	if x, ok := m[t.Name]; ok && t.Var {
		return x
	}
	result := api.Term{Name: t.Name, Var: t.Var}
	for _, x := range t.Args {
		result.Args = append(result.Args, replace(m, x))
	}
	return result
}

// table returns a substitution as a map.
func table(s []api.Bind) map[string]api.Term {
	m := map[string]api.Term{}
	for _, b := range s {
		m[b.Name] = b.Term
	}
	return m
}

// numbered returns a term with its variables renamed to numbers in the order of their first occurrence.
func numbered(t api.Term, prefix string) api.Term {
	m := map[string]api.Term{}
	for i, x := range variables(t) {
		m[x] = v(fmt.Sprint(prefix, i))
	}
	return replace(m, t)
}

// subterms returns the subterms of a term, with repetitions.
func subterms(t api.Term) []api.Term {
	list := []api.Term{t}
	for _, x := range t.Args {
		list = append(list, subterms(x)...)
	}
	return list
}

// substs returns all maps from these variables to these terms.
func substs(names []string, images []api.Term) []map[string]api.Term {
	if len(names) == 0 {
		return []map[string]api.Term{{}}
	}
	var list []map[string]api.Term
	for _, rest := range substs(names[1:], images) {
		for _, x := range images {
			m := map[string]api.Term{names[0]: x}
			for k, y := range rest {
				m[k] = y
			}
			list = append(list, m)
		}
	}
	return list
}

// terms returns all terms of depth at most 2 over h, f, the variables x, y and z, and the constants c and x.
func terms() []api.Term {
	flat := []api.Term{v("x"), v("y"), v("z"), f("c"), f("x")}
	list := slices.Clone(flat)
	for _, a := range flat {
		list = append(list, f("h", a))
		for _, b := range flat {
			list = append(list, f("f", a, b))
		}
	}
	return append(list, f("f", v("x")), f("f", v("y"), v("x"), f("c")), f("g", v("z"), v("x")))
}

// dice returns the same numbers below n in every run.
type dice uint32

func (d *dice) below(n int) int {
	*d = *d*1664525 + 1013904223
	return int(*d>>8) % n
}

// term returns a term of at most this depth.
func (d *dice) term(depth int) api.Term {
	if n := d.below(10); n < 5 || depth == 1 {
		return v([]string{"x", "y", "z", "x0", "x10"}[n%5])
	} else if n < 6 {
		return f([]string{"c", "x"}[d.below(2)])
	}
	t := f([]string{"f", "f", "f", "h#"}[d.below(4)])
	for range 1 + d.below(2) {
		t.Args = append(t.Args, d.term(depth-1))
	}
	return t
}

// spoil overwrites all memory that a term holds.
func spoil(t api.Term) {
	for i := range t.Args {
		spoil(t.Args[i])
	}
	l := t.Args[:cap(t.Args)]
	for i := range l {
		l[i] = f("spoilt")
	}
}

// odd returns terms that are not valid, with the error of each.
func odd() []struct {
	name string
	t    api.Term
	e    api.Errno
} {
	ring := make([]api.Term, 2)
	ring[0], ring[1] = f("f", ring...), f("c")
	return []struct {
		name string
		t    api.Term
		e    api.Errno
	}{
		{"zero value", api.Term{}, api.ErrForm},
		{"marked variable", v("x#"), api.ErrForm},
		{"variable with an argument", api.Term{Name: "x", Var: true, Args: []api.Term{v("y")}}, api.ErrForm},
		{"symbol with a blank", f("f", f("a b")), api.ErrForm},
		{"long name", f(strings.Repeat("a", api.MaxName+1)), api.ErrForm},
		{"nine arguments", f("f", slices.Repeat([]api.Term{f("c")}, api.MaxArity+1)...), api.ErrForm},
		{"too deep", chain(api.MaxDeep, f("c")), api.ErrLimit},
		{"too large", wide(api.MaxSize + 1), api.ErrLimit},
		{"too large and malformed", f("f", wide(api.MaxSize), v("-")), api.ErrForm},
		{"ring", ring[0], api.ErrLimit},
	}
}

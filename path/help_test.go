package path_test

import (
	"fmt"
	"math"
	"slices"
	"strings"
	"testing"

	"dwindle/api"
	"dwindle/path"
	"dwindle/read"
	"dwindle/term"
)

// v returns a variable.
func v(name string) api.Term { return api.Term{Name: name, Var: true} }

// f returns a function symbol applied to arguments.
func f(name string, args ...api.Term) api.Term { return api.Term{Name: name, Args: args} }

// rule returns a rule.
func rule(left, right api.Term) api.Rule { return api.Rule{Left: left, Right: right} }

// ranks returns the precedence of a string such as "f 2 g 1".
func ranks(t *testing.T, s string) []api.Rank {
	t.Helper()
	var l []api.Rank
	words := strings.Fields(s)
	for i := 0; i < len(words); i += 2 {
		x := api.Rank{Name: words[i]}
		if _, err := fmt.Sscan(words[i+1], &x.Rank); err != nil {
			t.Fatal(s, err)
		}
		l = append(l, x)
	}
	return l
}

// parse returns the term of a source, in which x, y and z are variables.
func parse(t *testing.T, s string) api.Term {
	t.Helper()
	x, at, e := read.Term(s, []string{"x", "y", "z"})
	if e != api.OK {
		t.Fatal(s, at, e)
	}
	return x
}

// system returns the rules of a source, in which x, y and z are variables.
func system(t *testing.T, s string) []api.Rule {
	t.Helper()
	r, at, e := read.System("(VAR x y z)(RULES " + s + ")")
	if e != api.OK {
		t.Fatal(s, at, e)
	}
	return r
}

// tower returns a term below so many unary symbols.
func tower(n int, t api.Term) api.Term {
	for range n {
		t = f("s", t)
	}
	return t
}

// wide returns a term with exactly n nodes and a small depth, in which the leaf occurs as often as possible.
func wide(n int, symbol string, leaf api.Term) api.Term {
	if n == 1 {
		return leaf
	}
	rest := n - 1
	count := min(rest, api.MaxArity)
	t := f(symbol)
	for i := range count {
		share := rest / (count - i)
		t.Args = append(t.Args, wide(share, symbol, leaf))
		rest -= share
	}
	return t
}

// show writes any term; variables are marked by a question mark.
func show(t api.Term) string {
	s := t.Name
	if t.Var {
		s = "?" + s
	}
	if len(t.Args) == 0 {
		return s
	}
	var l []string
	for _, x := range t.Args {
		l = append(l, show(x))
	}
	return s + "(" + strings.Join(l, ", ") + ")"
}

// showSystem writes any rules.
func showSystem(r []api.Rule) string {
	var l []string
	for _, x := range r {
		l = append(l, show(x.Left)+" -> "+show(x.Right))
	}
	return strings.Join(l, "; ")
}

// greater compares two terms for which there must be no error.
func greater(t *testing.T, l []api.Rank, a, b api.Term) bool {
	t.Helper()
	ok, e := path.Greater(l, a, b)
	if e != api.OK {
		t.Fatal(l, show(a), show(b), e)
	}
	return ok
}

// expectGreater reports a comparison with another answer.
func expectGreater(t *testing.T, l []api.Rank, a, b api.Term, want bool) {
	t.Helper()
	if ok := greater(t, l, a, b); ok != want {
		t.Error(l, show(a), show(b), ok)
	}
}

// above compares two terms by the text of P6.2.
func above(l []api.Rank, s, t api.Term) bool {
	if s.Var {
		return false
	}
	for _, x := range s.Args {
		if term.Equal(x, t) || above(l, x, t) {
			return true
		}
	}
	if t.Var {
		return false
	}
	for _, x := range t.Args {
		if !above(l, s, x) {
			return false
		}
	}
	if listed(l, s.Name) > listed(l, t.Name) {
		return true
	}
	if s.Name != t.Name || len(s.Args) != len(t.Args) {
		return false
	}
	for i := range s.Args {
		if slices.EqualFunc(s.Args[:i], t.Args[:i], term.Equal) && above(l, s.Args[i], t.Args[i]) {
			return true
		}
	}
	return false
}

// listed returns the rank of a symbol.
func listed(l []api.Rank, name string) int {
	for _, x := range l {
		if x.Name == name {
			return x.Rank
		}
	}
	return 0
}

// grow returns terms and what f and g with one argument and f with two arguments make of them.
func grow(small []api.Term) []api.Term {
	list := slices.Clone(small)
	for _, x := range small {
		list = append(list, f("g", x), f("f", x))
		for _, y := range small {
			list = append(list, f("f", x, y))
		}
	}
	return list
}

// flatTerms returns terms of depth 1 and 2. The variable and the constant a have the same name, and so have two symbols
// with different numbers of arguments.
func flatTerms() []api.Term {
	return grow([]api.Term{v("a"), v("x"), f("a"), f("b")})
}

// precedences returns all precedences of a, b, f and g with ranks below n.
func precedences(n int) [][]api.Rank {
	list := [][]api.Rank{nil}
	for _, name := range []string{"a", "b", "f", "g"} {
		var longer [][]api.Rank
		for _, l := range list {
			for i := range n {
				longer = append(longer, append(slices.Clone(l), api.Rank{Name: name, Rank: i}))
			}
		}
		list = longer
	}
	return list
}

// totalPrecedences returns all precedences of a, b, f and g with different ranks. The symbol with the rank 0 is not listed.
func totalPrecedences() [][]api.Rank {
	var list [][]api.Rank
	for _, l := range precedences(4) {
		seen := map[int]bool{}
		for _, x := range l {
			seen[x.Rank] = true
		}
		if len(seen) == len(l) {
			list = append(list, slices.DeleteFunc(l, func(x api.Rank) bool { return x.Rank == 0 }))
		}
	}
	return list
}

// dice returns the same numbers below n in every run.
type dice uint32

func (d *dice) below(n int) int {
	*d = *d*1664525 + 1013904223
	return int(*d>>8) % n
}

// term returns a term of at most this depth over f, g, a, b and these variables.
func (d *dice) term(depth int, vars ...string) api.Term {
	n := d.below(10)
	if len(vars) > 0 && (n < 2 || depth == 1 && n < 6) {
		return v(vars[d.below(len(vars))])
	}
	if depth == 1 || n < 3 {
		return f([]string{"a", "b"}[d.below(2)])
	}
	if n < 5 {
		return f("g", d.term(depth-1, vars...))
	}
	return f("f", d.term(depth-1, vars...), d.term(depth-1, vars...))
}

// ranks returns a precedence of a, b, f and g.
func (d *dice) ranks() []api.Rank {
	var l []api.Rank
	for _, name := range []string{"a", "b", "f", "g"} {
		l = append(l, api.Rank{Name: name, Rank: d.below(3)})
	}
	return l
}

// system returns a system of one to three rules.
func (d *dice) system() []api.Rule {
	var r []api.Rule
	for range 1 + d.below(3) {
		left := d.term(4, "x", "y")
		for left.Var {
			left = d.term(4, "x", "y")
		}
		names, _ := term.Vars(left)
		r = append(r, rule(left, d.term(3, names...)))
	}
	return r
}

// oddTerm is a term that is not valid, with its error.
type oddTerm struct {
	name string
	t    api.Term
	e    api.Errno
}

// oddTerms returns terms that are not valid.
func oddTerms() []oddTerm {
	ring := make([]api.Term, 2)
	ring[0], ring[1] = f("f", ring...), f("a")
	return []oddTerm{
		{"zero value", api.Term{}, api.ErrForm},
		{"marked variable", v("x#"), api.ErrForm},
		{"variable with an argument", api.Term{Name: "x", Var: true, Args: []api.Term{v("y")}}, api.ErrForm},
		{"symbol with a blank", f("f", f("a b")), api.ErrForm},
		{"long name", f(strings.Repeat("a", api.MaxName+1)), api.ErrForm},
		{"nine arguments", f("f", slices.Repeat([]api.Term{f("c")}, api.MaxArity+1)...), api.ErrForm},
		{"too deep", tower(api.MaxDeep, f("a")), api.ErrLimit},
		{"too large", wide(api.MaxSize+1, "w", f("a")), api.ErrLimit},
		{"too large and malformed", f("f", wide(api.MaxSize, "w", f("a")), v("-")), api.ErrForm},
		{"ring", ring[0], api.ErrLimit},
	}
}

// oddSystem is a slice of rules that is not a system, with its error.
type oddSystem struct {
	name string
	r    []api.Rule
	e    api.Errno
}

// oddSystems returns slices of rules that are no systems.
func oddSystems() []oddSystem {
	ab := rule(f("a"), f("b"))
	var list []oddSystem
	for _, x := range oddTerms() {
		list = append(list, oddSystem{x.name + " left", []api.Rule{ab, rule(x.t, f("b"))}, x.e})
		list = append(list, oddSystem{x.name + " right", []api.Rule{ab, rule(f("a"), x.t), rule(v("x"), f("a"))}, x.e})
	}
	return append(list,
		oddSystem{"too many rules", slices.Repeat([]api.Rule{rule(f(""), f(""))}, api.MaxRules+1), api.ErrLimit},
		oddSystem{"marked symbol", []api.Rule{ab, rule(v("x"), f("a#"))}, api.ErrName},
		oddSystem{"two arities", []api.Rule{ab, rule(f("a", v("x")), v("x"))}, api.ErrName},
		oddSystem{"variable on the left", []api.Rule{ab, rule(v("x"), f("a"))}, api.ErrVar},
		oddSystem{"extra variable", []api.Rule{ab, rule(f("g", v("x")), f("f", v("x"), v("y")))}, api.ErrVar},
	)
}

// oddRanks is a slice of ranks that is no precedence, with its error.
type oddRanks struct {
	name string
	l    []api.Rank
	e    api.Errno
}

// oddPrecedences returns slices of ranks that are no precedences.
func oddPrecedences() []oddRanks {
	a := api.Rank{Name: "a", Rank: 1}
	var list []oddRanks
	for _, name := range []string{"", "#", "a b", "a##", "a#b", "#a", "é", "f(", "a\x00", "a-", strings.Repeat("f", api.MaxName+1), strings.Repeat("f", api.MaxName) + "#"} {
		list = append(list,
			oddRanks{"alone " + name, []api.Rank{{Name: name}}, api.ErrForm},
			oddRanks{"after " + name, []api.Rank{{Name: "A", Rank: -1}, {Name: name, Weight: 1}}, api.ErrForm},
			oddRanks{"first " + name, []api.Rank{{Name: name}, {Name: "zz"}}, api.ErrForm},
		)
	}
	for _, n := range []int{-1, api.MaxRank + 1, math.MaxInt, math.MinInt} {
		list = append(list,
			oddRanks{fmt.Sprint("rank ", n), []api.Rank{a, {Name: "b", Rank: n}}, api.ErrArg},
			oddRanks{fmt.Sprint("rank first ", n), []api.Rank{{Name: "A", Rank: n}, a}, api.ErrArg},
			oddRanks{fmt.Sprint("rank, then an odd name ", n), []api.Rank{{Name: "A", Rank: n}, a, {Name: "-"}}, api.ErrForm},
		)
	}
	for _, n := range []int{-1, 1, api.MaxRank, math.MaxInt, math.MinInt} {
		list = append(list,
			oddRanks{fmt.Sprint("weight ", n), []api.Rank{a, {Name: "b", Rank: 1, Weight: n}}, api.ErrArg},
			oddRanks{fmt.Sprint("weight, then equal names ", n), []api.Rank{{Name: "A", Weight: n}, a, a}, api.ErrForm},
		)
	}
	long := symbols(api.MaxSymbols + 1)
	return append(list,
		oddRanks{"equal names", []api.Rank{a, a}, api.ErrForm},
		oddRanks{"equal names, different ranks", []api.Rank{a, {Name: "a", Rank: 2}}, api.ErrForm},
		oddRanks{"decreasing names", []api.Rank{{Name: "b"}, a}, api.ErrForm},
		oddRanks{"names not in byte order", []api.Rank{a, {Name: "B"}}, api.ErrForm},
		oddRanks{"mark before no mark", []api.Rank{{Name: "a#"}, a}, api.ErrForm},
		oddRanks{"longer before shorter", []api.Rank{{Name: "aa"}, a}, api.ErrForm},
		oddRanks{"too many", long, api.ErrLimit},
		oddRanks{"too many, all odd", slices.Repeat([]api.Rank{{Name: "-", Rank: -1}}, 5000), api.ErrLimit},
	)
}

// symbols returns a list of so many symbols.
func symbols(n int) []api.Rank {
	var l []api.Rank
	for i := range n {
		l = append(l, api.Rank{Name: fmt.Sprintf("f%04d", i), Rank: i % (api.MaxRank + 1)})
	}
	return l
}

package pairs_test

import (
	"fmt"
	"math"
	"slices"
	"sort"
	"strings"
	"testing"

	"dwindle/api"
	"dwindle/derive"
	"dwindle/pairs"
	"dwindle/read"
	"dwindle/term"
)

// v returns a variable.
func v(name string) api.Term { return api.Term{Name: name, Var: true} }

// f returns a function symbol applied to arguments.
func f(name string, args ...api.Term) api.Term { return api.Term{Name: name, Args: args} }

// rule returns a rule or a pair.
func rule(left, right api.Term) api.Rule { return api.Rule{Left: left, Right: right} }

// parse returns the term of a source, in which x, y and z are variables.
func parse(t *testing.T, s string) api.Term {
	t.Helper()
	x, at, e := read.Term(s, []string{"x", "y", "z"})
	if e != api.OK {
		t.Fatal(s, at, e)
	}
	return x
}

// system returns the rules of a source, in which x, y and z are variables.
func system(t *testing.T, s string) []api.Rule {
	t.Helper()
	r, at, e := read.System("(VAR x y z)(RULES " + s + ")")
	if e != api.OK {
		t.Fatal(s, at, e)
	}
	return r
}

// list returns the rules or pairs of a source, which are separated by semicolons and need not be valid.
func list(t *testing.T, s string) []api.Rule {
	t.Helper()
	var p []api.Rule
	for _, line := range strings.Split(s, ";") {
		if left, right, ok := strings.Cut(line, "->"); ok {
			p = append(p, rule(parse(t, left), parse(t, right)))
		}
	}
	return p
}

// tower returns a term below so many unary symbols.
func tower(n int, symbol string, t api.Term) api.Term {
	for range n {
		t = f(symbol, t)
	}
	return t
}

// wide returns a term with exactly n nodes and a small depth, in which the leaf occurs as often as possible.
func wide(n int, leaf api.Term) api.Term {
	if n == 1 {
		return leaf
	}
	rest := n - 1
	count := min(rest, api.MaxArity)
	t := f(fmt.Sprint("w", count))
	for i := range count {
		share := rest / (count - i)
		t.Args = append(t.Args, wide(share, leaf))
		rest -= share
	}
	return t
}

// show writes any term; variables are marked by a question mark.
func show(t api.Term) string {
	s := t.Name
	if t.Var {
		s = "?" + s
	}
	if len(t.Args) == 0 {
		return s
	}
	var l []string
	for _, x := range t.Args {
		l = append(l, show(x))
	}
	return s + "(" + strings.Join(l, ", ") + ")"
}

// showRules writes any rules.
func showRules(r []api.Rule) string {
	var l []string
	for _, x := range r {
		l = append(l, show(x.Left)+" -> "+show(x.Right))
	}
	return strings.Join(l, "; ")
}

// showSubst writes any substitution.
func showSubst(s []api.Bind) string {
	var l []string
	for _, b := range s {
		l = append(l, b.Name+" = "+show(b.Term))
	}
	return strings.Join(l, "; ")
}

// showChain writes any derivation, each step as the index of the rule and the position.
func showChain(c api.Chain) string {
	s := show(c.Start) + " by"
	for _, x := range c.Steps {
		s += fmt.Sprintf(" %d%v", x.Rule, x.Pos)
	}
	return s
}

// subterms returns the subterms of any term in preorder.
func subterms(t api.Term) []api.Term {
	l := []api.Term{t}
	for _, x := range t.Args {
		l = append(l, subterms(x)...)
	}
	return l
}

// contains reports whether a slice has a term.
func contains(l []api.Term, t api.Term) bool {
	return slices.ContainsFunc(l, func(x api.Term) bool { return term.Equal(x, t) })
}

// marked returns a term whose root symbol is marked.
func marked(t api.Term) api.Term {
	return f(t.Name+"#", t.Args...)
}

// pairsOf returns the dependency pairs by the text of P10.2, however many there are.
func pairsOf(r []api.Rule) []api.Rule {
	var l []api.Rule
	for _, x := range r {
		for _, u := range subterms(x.Right) {
			isRoot := func(y api.Rule) bool { return !u.Var && y.Left.Name == u.Name }
			if !slices.ContainsFunc(r, isRoot) || contains(subterms(x.Left)[1:], u) {
				continue
			}
			pair := rule(marked(x.Left), marked(u))
			if !strings.Contains("; "+showRules(l)+"; ", "; "+showRules([]api.Rule{pair})+"; ") {
				l = append(l, pair)
			}
		}
	}
	return l
}

// renamed returns a term with a prefix before the names of its variables.
func renamed(prefix string, t api.Term) api.Term {
	if t.Var {
		return v(prefix + t.Name)
	}
	u := f(t.Name)
	for _, x := range t.Args {
		u.Args = append(u.Args, renamed(prefix, x))
	}
	return u
}

// bindings are what unification, by the textbook, has found for variables.
type bindings map[string]api.Term

// find replaces a variable as long as it is bound.
func (b bindings) find(t api.Term) api.Term {
	for t.Var {
		x, ok := b[t.Name]
		if !ok {
			return t
		}
		t = x
	}
	return t
}

// occurs reports whether a variable occurs in a term.
func (b bindings) occurs(name string, t api.Term) bool {
	t = b.find(t)
	return t.Var && t.Name == name || slices.ContainsFunc(t.Args, func(x api.Term) bool { return b.occurs(name, x) })
}

// unify makes two terms equal, if that is possible.
func (b bindings) unify(s, t api.Term) bool {
	s, t = b.find(s), b.find(t)
	if s.Var && t.Var && s.Name == t.Name {
		return true
	}
	if s.Var && b.occurs(s.Name, t) {
		return false
	}
	if s.Var {
		b[s.Name] = t
		return true
	}
	if t.Var {
		return b.unify(t, s)
	}
	return s.Name == t.Name && slices.EqualFunc(s.Args, t.Args, b.unify)
}

// unifies reports whether two terms unify after the second one has been renamed apart.
func unifies(s, t api.Term) bool {
	return bindings{}.unify(renamed("left_", s), renamed("right_", t))
}

// capOf returns the cap of a term by the text of P10.4; fresh counts the variables that were used.
func capOf(r []api.Rule, t api.Term, fresh *int) api.Term {
	*fresh++
	name := fmt.Sprint("fresh_", *fresh)
	if t.Var {
		return v(name)
	}
	u := capInside(r, t, fresh)
	if slices.ContainsFunc(r, func(x api.Rule) bool { return unifies(u, x.Left) }) {
		return v(name)
	}
	return u
}

// capInside returns a term with its arguments replaced by their caps.
func capInside(r []api.Rule, t api.Term, fresh *int) api.Term {
	u := f(t.Name)
	for _, x := range t.Args {
		u.Args = append(u.Args, capOf(r, x, fresh))
	}
	return u
}

// canonical returns a term whose variables are renamed to x0, x1, .. from left to right.
func canonical(t *testing.T, x api.Term) api.Term {
	t.Helper()
	y, e := term.Canonical(x)
	if e != api.OK {
		t.Fatal(show(x), e)
	}
	return y
}

// edgesOf returns the edges by the text of P10.5.
func edgesOf(p, r []api.Rule) [][]int {
	l := make([][]int, len(p))
	for i, x := range p {
		for k, y := range p {
			if unifies(capInside(r, x.Right, new(int)), y.Left) {
				l[i] = append(l[i], k)
			}
		}
	}
	return l
}

// after returns the nodes to which a path with at least one edge leads from i, in increasing order.
func after(next [][]int, i int) []int {
	l := slices.Clone(next[i])
	for at := 0; at < len(l); at++ {
		for _, k := range next[l[at]] {
			if !slices.Contains(l, k) {
				l = append(l, k)
			}
		}
	}
	sort.Ints(l)
	return l
}

// componentsOf returns the strongly connected components with an edge of a graph.
func componentsOf(next [][]int) [][]int {
	var l [][]int
	for i := range next {
		var with []int
		for _, k := range after(next, i) {
			if slices.Contains(after(next, k), i) {
				with = append(with, k)
			}
		}
		if len(with) > 0 && with[0] == i {
			l = append(l, with)
		}
	}
	return l
}

// systems are systems that differ in what their left and right sides look like.
func systems(t *testing.T) [][]api.Rule {
	t.Helper()
	var l [][]api.Rule
	for _, s := range []string{
		"",
		"a -> b f(x, x) -> x",
		"a -> a",
		"a -> g(b) b -> g(a)",
		"f(x, y) -> f(y, x)",
		"g(g(x)) -> g(f(x, g(x)))",
		"f(a, y) -> y f(g(x), y) -> g(f(x, y))",
		"g(x) -> f(x, x) f(x, g(x)) -> g(x) f(a, b) -> g(g(a))",
		"f(x, f(y, x)) -> f(y, f(y, x)) f(x, x) -> g(x) g(f(x, y)) -> f(y, g(x)) g(f(x, x)) -> b",
		"f(f(x, y), z) -> f(x, f(y, z)) f(x, g(x)) -> a f(a, x) -> f(x, x)",
		"f(g(x), x) -> f(x, g(x)) a -> g(a)",
	} {
		l = append(l, system(t, s))
	}
	d := dice(1)
	for range 60 {
		l = append(l, d.system())
	}
	return l
}

// dice returns the same numbers below n in every run.
type dice uint32

func (d *dice) below(n int) int {
	*d = *d*1664525 + 1013904223
	return int(*d>>8) % n
}

// term returns a term of at most this depth over f, g, a, b and these variables.
func (d *dice) term(depth int, vars ...string) api.Term {
	n := d.below(10)
	if len(vars) > 0 && (n < 2 || depth == 1 && n < 6) {
		return v(vars[d.below(len(vars))])
	}
	if depth == 1 || n < 3 {
		return f([]string{"a", "b"}[d.below(2)])
	}
	if n < 5 {
		return f("g", d.term(depth-1, vars...))
	}
	return f("f", d.term(depth-1, vars...), d.term(depth-1, vars...))
}

// symbol returns a term of at most this depth that is no variable.
func (d *dice) symbol(depth int, vars ...string) api.Term {
	t := d.term(depth, vars...)
	for t.Var {
		t = d.term(depth, vars...)
	}
	return t
}

// system returns a system of one to four rules.
func (d *dice) system() []api.Rule {
	var r []api.Rule
	for range 1 + d.below(4) {
		left := d.symbol(3, "x", "y")
		names, _ := term.Vars(left)
		r = append(r, rule(left, d.term(3, names...)))
	}
	return r
}

// pairs returns one to six pairs that need not be those of a system.
func (d *dice) pairs() []api.Rule {
	var p []api.Rule
	for range 1 + d.below(6) {
		left := d.symbol(3, "x", "y")
		names, _ := term.Vars(left)
		p = append(p, rule(marked(left), marked(d.symbol(3, names...))))
	}
	return p
}

// general returns a term of which t is an instance, and whose variables are all different.
func (d *dice) general(t api.Term, count *int) api.Term {
	*count++
	if t.Var || *count > 1 && d.below(8) == 0 {
		return v(fmt.Sprint("x", *count))
	}
	u := f(t.Name)
	for _, x := range t.Args {
		u.Args = append(u.Args, d.general(x, count))
	}
	return u
}

// linked returns two pairs: the right side of the first one rewrites to an instance of the left side of the second one.
func (d *dice) linked(t *testing.T, r []api.Rule) []api.Rule {
	t.Helper()
	right := marked(d.symbol(5, "x", "y"))
	g, e := derive.Explore(r, right, 30)
	if e != api.OK {
		t.Fatal(showRules(r), show(right), e)
	}
	left := d.general(g.Terms[d.below(len(g.Terms))], new(int))
	return []api.Rule{rule(f("h#", v("x"), v("y")), right), rule(left, f("h#", f("a"), f("b")))}
}

// subst returns a substitution for x and y.
func (d *dice) subst() []api.Bind {
	return []api.Bind{{Name: "x", Term: d.term(3, "y", "z")}, {Name: "y", Term: d.term(3, "x")}}
}

// problem is a pair problem.
type problem struct{ p, r []api.Rule }

// problems returns the pair problems of systems, and others with the same rules.
func problems(t *testing.T) []problem {
	t.Helper()
	var l []problem
	d := dice(2)
	for _, r := range systems(t) {
		p, e := pairs.Of(r)
		if e != api.OK {
			t.Fatal(showRules(r), e)
		}
		l = append(l, problem{p, r})
		for _, p := range [][]api.Rule{d.pairs(), d.pairs(), d.linked(t, r), d.linked(t, r), d.linked(t, r)} {
			if e := pairs.Check(p, r); e != api.OK {
				t.Fatal(showRules(p), showRules(r), e)
			}
			l = append(l, problem{p, r})
		}
	}
	return l
}

// coded returns pairs without rules that have exactly these edges. There may be 64: the argument a of the left side of a
// pair tells which one it is, and the right sides have a where an edge leads.
func coded(next [][]int) []api.Rule {
	side := func(leaf func(k int) api.Term) api.Term {
		t := f("f#")
		for i := range api.MaxArity {
			t.Args = append(t.Args, f("g"))
			for k := range api.MaxArity {
				t.Args[i].Args = append(t.Args[i].Args, leaf(api.MaxArity*i+k))
			}
		}
		return t
	}
	var p []api.Rule
	for i := range next {
		left := side(func(k int) api.Term {
			if k == i {
				return f("a")
			}
			return v(fmt.Sprint("x", k))
		})
		right := side(func(k int) api.Term {
			if slices.Contains(next[i], k) {
				return f("a")
			}
			return f("b")
		})
		p = append(p, rule(left, right))
	}
	return p
}

// graph returns the edges of a graph with so many nodes, each with the probability part / of.
func (d *dice) graph(nodes, part, of int) [][]int {
	next := make([][]int, nodes)
	for i := range next {
		for k := range nodes {
			if d.below(of) < part {
				next[i] = append(next[i], k)
			}
		}
	}
	return next
}

// spoil overwrites all memory that a term holds.
func spoil(t api.Term) {
	for i := range t.Args {
		spoil(t.Args[i])
	}
	l := t.Args[:cap(t.Args)]
	for i := range l {
		l[i] = f("spoilt")
	}
}

// spoilInts overwrites all memory that a slice holds.
func spoilInts(l []int) {
	l = l[:cap(l)]
	for i := range l {
		l[i] = -7
	}
}

// oddTerm is a term that is not valid, with its error.
type oddTerm struct {
	name string
	t    api.Term
	e    api.Errno
}

// oddTerms returns terms that are not valid.
func oddTerms() []oddTerm {
	ring := make([]api.Term, 2)
	ring[0], ring[1] = f("f", ring...), f("a")
	return []oddTerm{
		{"zero value", api.Term{}, api.ErrForm},
		{"marked variable", v("x#"), api.ErrForm},
		{"variable with an argument", api.Term{Name: "x", Var: true, Args: []api.Term{v("y")}}, api.ErrForm},
		{"symbol with a blank", f("f#", f("a b")), api.ErrForm},
		{"two marks", f("f##"), api.ErrForm},
		{"long name", f(strings.Repeat("a", api.MaxName) + "#"), api.ErrForm},
		{"nine arguments", f("f#", slices.Repeat([]api.Term{f("c")}, api.MaxArity+1)...), api.ErrForm},
		{"too deep", tower(api.MaxDeep, "s", f("a")), api.ErrLimit},
		{"too large", wide(api.MaxSize+1, f("a")), api.ErrLimit},
		{"too large and malformed", f("f#", wide(api.MaxSize, f("a")), v("-")), api.ErrForm},
		{"ring", ring[0], api.ErrLimit},
	}
}

// oddRules is a slice of rules or pairs that is not valid, with its error.
type oddRules struct {
	name string
	r    []api.Rule
	e    api.Errno
}

// oddSystems returns slices of rules that are no systems.
func oddSystems() []oddRules {
	ab := rule(f("a"), f("b"))
	var l []oddRules
	for _, x := range oddTerms() {
		l = append(l, oddRules{x.name + " left", []api.Rule{ab, rule(x.t, f("-"))}, x.e})
		l = append(l, oddRules{x.name + " right", []api.Rule{ab, rule(f("a"), x.t), rule(v("x"), f("a#"))}, x.e})
	}
	return append(l,
		oddRules{"too many rules", slices.Repeat([]api.Rule{rule(f(""), f(""))}, api.MaxRules+1), api.ErrLimit},
		oddRules{"marked symbol", []api.Rule{ab, rule(v("x"), f("a#"))}, api.ErrName},
		oddRules{"two arities", []api.Rule{ab, rule(f("a", v("x")), v("y"))}, api.ErrName},
		oddRules{"variable on the left", []api.Rule{ab, rule(v("x"), f("a"))}, api.ErrVar},
		oddRules{"extra variable", []api.Rule{ab, rule(f("g", v("x")), f("f", v("x"), v("y")))}, api.ErrVar},
	)
}

// oddPairs returns slices that are no pairs of a problem with the rules of plainRules. Each has errors that come later too.
func oddPairs(t *testing.T) []oddRules {
	t.Helper()
	var l []oddRules
	good := list(t, "f#(x, x) -> f#(a, x)")
	later := list(t, "f#(x) -> f#(y, z)")
	unmarked := list(t, "f#(x, y) -> a")
	for _, x := range oddTerms() {
		l = append(l, oddRules{x.name + " left", slices.Concat(unmarked, later, []api.Rule{rule(x.t, f("-"))}), x.e})
		l = append(l, oddRules{x.name + " right", slices.Concat(unmarked, later, []api.Rule{rule(f("a"), x.t), rule(f("-"), f("-"))}), x.e})
	}
	l = append(l, oddRules{"too many pairs", slices.Repeat([]api.Rule{rule(f(""), f(""))}, api.MaxRules+1), api.ErrLimit})
	l = append(l, oddRules{"too many good pairs", slices.Repeat(good, api.MaxRules+1), api.ErrLimit})
	for _, s := range []string{
		"x -> f#(a, a)", "f#(x, y) -> x", "x -> x", "f(x, y) -> f#(x, y)", "f#(x, y) -> f(x, y)", "a -> a", "a# -> f(a#, a)",
		"f#(f#(x, y), a) -> a#", "a# -> f#(a, a#)", "f#(x, g(g(a#))) -> a#", "f#(g#(x), y) -> f#(x, y)", "f(a#, a#) -> a#",
	} {
		l = append(l, oddRules{"form: " + s, slices.Concat(good, later, list(t, s)), api.ErrForm})
	}
	for _, s := range []string{
		"f#(x) -> f#(x)", "f#(x, y) -> f#(x)", "b# -> b#(a)", "f#(x, y) -> f#(f(x), y)", "f#(a(x), y) -> f#(x, y)",
		"f#(x, y) -> f#(x, g)", "f#(h(x), y) -> f#(x, h)", "f#(h(x), h) -> f#(x, x)",
	} {
		l = append(l, oddRules{"name: " + s, slices.Concat(good, list(t, "g#(x) -> g#(y)"), list(t, s)), api.ErrName})
	}
	for _, s := range []string{"f#(x, x) -> f#(x, y)", "a# -> f#(a, x)", "f#(g(x), y) -> f#(g(y), g(z))", "g#(h(x)) -> f#(y, x)"} {
		l = append(l, oddRules{"variable: " + s, slices.Concat(good, list(t, s)), api.ErrVar})
	}
	// The variable b is not the constant b.
	return append(l, oddRules{"variable b", []api.Rule{rule(f("f#", v("x"), f("b")), f("f#", v("x"), v("b")))}, api.ErrVar})
}

// plainRules are the rules of the tests of errors.
func plainRules(t *testing.T) []api.Rule {
	t.Helper()
	return system(t, "f(x, x) -> g(x) g(x) -> f(a, x) a -> b")
}

// oddNumbers are numbers that are not from low to high.
func oddNumbers(low, high int) []int {
	return []int{low - 1, high + 1, low - 100, math.MaxInt, math.MinInt}
}

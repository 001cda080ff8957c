package rewrite_test

import (
	"fmt"
	"math"
	"slices"
	"strings"
	"testing"

	"dwindle/api"
	"dwindle/read"
	"dwindle/rewrite"
	"dwindle/term"
	"dwindle/unify"
)

// v returns a variable.
func v(name string) api.Term { return api.Term{Name: name, Var: true} }

// f returns a function symbol applied to arguments.
func f(name string, args ...api.Term) api.Term { return api.Term{Name: name, Args: args} }

// rule returns a rule.
func rule(left, right api.Term) api.Rule { return api.Rule{Left: left, Right: right} }

// step returns a step.
func step(rule int, pos ...int) api.Step { return api.Step{Rule: rule, Pos: pos} }

// parse returns the term of a source, in which x, y and z are variables.
func parse(t *testing.T, s string) api.Term {
	t.Helper()
	x, at, e := read.Term(s, []string{"x", "y", "z"})
	if e != api.OK {
		t.Fatal(s, at, e)
	}
	return x
}

// system returns the rules of a source, in which x, y and z are variables.
func system(t *testing.T, s string) []api.Rule {
	t.Helper()
	r, at, e := read.System("(VAR x y z)(RULES " + s + ")")
	if e != api.OK {
		t.Fatal(s, at, e)
	}
	return r
}

// chain returns a term below so many unary symbols.
func chain(n int, t api.Term) api.Term {
	for range n {
		t = f("s", t)
	}
	return t
}

// wide returns a term with exactly n nodes and a small depth, in which the leaf occurs as often as possible.
func wide(n int, leaf api.Term) api.Term {
	if n == 1 {
		return leaf
	}
	rest := n - 1
	count := min(rest, api.MaxArity)
	t := f(fmt.Sprint("w", count))
	for i := range count {
		share := rest / (count - i)
		t.Args = append(t.Args, wide(share, leaf))
		rest -= share
	}
	return t
}

// show writes any term; variables are marked by a question mark.
func show(t api.Term) string {
	s := t.Name
	if t.Var {
		s = "?" + s
	}
	if len(t.Args) == 0 {
		return s
	}
	return s + "(" + showTerms(t.Args) + ")"
}

// showTerms writes any terms.
func showTerms(list []api.Term) string {
	var l []string
	for _, x := range list {
		l = append(l, show(x))
	}
	return strings.Join(l, ", ")
}

// showSteps writes any steps, each as the index of the rule and the position.
func showSteps(l []api.Step) string {
	var list []string
	for _, s := range l {
		list = append(list, fmt.Sprintf("%d%v", s.Rule, s.Pos))
	}
	return strings.Join(list, " ")
}

// showSubst writes any substitution.
func showSubst(s []api.Bind) string {
	var l []string
	for _, b := range s {
		l = append(l, b.Name+" = "+show(b.Term))
	}
	return strings.Join(l, "; ")
}

// showSystem writes any rules.
func showSystem(r []api.Rule) string {
	var l []string
	for _, x := range r {
		l = append(l, show(x.Left)+" -> "+show(x.Right))
	}
	return strings.Join(l, "; ")
}

// strategies are all strategies.
func strategies() []int {
	return []int{api.StAny, api.StInner, api.StOuter, api.StLeft, api.StFirst}
}

// notStrategies are numbers that are no strategies.
func notStrategies() []int {
	return []int{0, api.StFirst + 1, -1, math.MaxInt, math.MinInt}
}

// isPrefix reports whether the position q starts with p.
func isPrefix(p, q []int) bool {
	return len(p) <= len(q) && slices.Equal(p, q[:len(p)])
}

// stepsOf finds all steps by the definition.
func stepsOf(t *testing.T, r []api.Rule, x api.Term) []api.Step {
	t.Helper()
	positions, e := term.Positions(x)
	if e != api.OK {
		t.Fatal(show(x), e)
	}
	var list []api.Step
	for _, pos := range positions {
		sub, _ := term.At(x, pos)
		for i := range r {
			if _, ok, _ := unify.Match(r[i].Left, sub); ok {
				list = append(list, step(i, pos...))
			}
		}
	}
	return list
}

// stepsUnder finds the steps under a strategy by the definition.
func stepsUnder(t *testing.T, r []api.Rule, x api.Term, strategy int) []api.Step {
	t.Helper()
	all := stepsOf(t, r, x)
	var list []api.Step
	for _, s := range all {
		below := func(a, b api.Step) bool { return isPrefix(b.Pos, a.Pos) && len(b.Pos) < len(a.Pos) }
		isInner := !slices.ContainsFunc(all, func(o api.Step) bool { return below(o, s) })
		isOuter := !slices.ContainsFunc(all, func(o api.Step) bool { return below(s, o) })
		isChosen := map[int]bool{api.StAny: true, api.StInner: isInner, api.StLeft: isInner, api.StOuter: isOuter, api.StFirst: isOuter}
		if isChosen[strategy] {
			list = append(list, s)
		}
	}
	if strategy == api.StLeft || strategy == api.StFirst {
		return slices.DeleteFunc(list, func(s api.Step) bool { return !slices.Equal(s.Pos, list[0].Pos) })
	}
	return list
}

// after performs a step by the definition.
func after(t *testing.T, r []api.Rule, x api.Term, s api.Step) api.Term {
	t.Helper()
	sub, e := term.At(x, s.Pos)
	if e != api.OK {
		t.Fatal(show(x), s, e)
	}
	b, ok, e := unify.Match(r[s.Rule].Left, sub)
	if !ok || e != api.OK {
		t.Fatal(show(x), s, ok, e)
	}
	image, e := term.Apply(b, r[s.Rule].Right)
	if e != api.OK {
		t.Fatal(show(x), s, e)
	}
	y, e := term.Put(x, s.Pos, image)
	if e != api.OK {
		t.Fatal(show(x), s, e)
	}
	return y
}

// do performs a step that must be possible.
func do(t *testing.T, r []api.Rule, x api.Term, s api.Step) api.Term {
	t.Helper()
	y, e := rewrite.Step(r, x, s)
	if e != api.OK {
		t.Fatal(showSystem(r), show(x), s, e)
	}
	return y
}

// systems are systems that differ in what their left sides look like.
func systems(t *testing.T) [][]api.Rule {
	var list [][]api.Rule
	for _, s := range []string{
		"",
		"a -> b f(x, x) -> x",
		"a -> a",
		"f(x, y) -> f(y, x)",
		"f(a, y) -> y f(g(x), y) -> g(f(x, y))",
		"g(x) -> f(x, x) g(g(x)) -> x g(a) -> b a -> g(a) g(x) -> g(x)",
		"f(x, f(y, x)) -> y f(x, x) -> a g(f(x, y)) -> f(y, g(x)) g(f(x, x)) -> b",
		"f(f(x, y), z) -> f(x, f(y, z)) f(x, g(x)) -> a f(a, x) -> x f(x, a) -> x",
	} {
		list = append(list, system(t, s))
	}
	d := dice(1)
	for range 20 {
		list = append(list, d.system())
	}
	return list
}

// dice returns the same numbers below n in every run.
type dice uint32

func (d *dice) below(n int) int {
	*d = *d*1664525 + 1013904223
	return int(*d>>8) % n
}

// term returns a term of at most this depth over f, g, a, b and these variables.
func (d *dice) term(depth int, vars ...string) api.Term {
	n := d.below(10)
	if len(vars) > 0 && (n < 2 || depth == 1 && n < 6) {
		return v(vars[d.below(len(vars))])
	}
	if depth == 1 || n < 4 {
		return f([]string{"a", "b"}[d.below(2)])
	}
	if n < 6 {
		return f("g", d.term(depth-1, vars...))
	}
	return f("f", d.term(depth-1, vars...), d.term(depth-1, vars...))
}

// system returns a system of one to five rules.
func (d *dice) system() []api.Rule {
	var r []api.Rule
	for range 1 + d.below(5) {
		left := d.term(3, "x", "y")
		for left.Var {
			left = d.term(3, "x", "y")
		}
		names, _ := term.Vars(left)
		r = append(r, rule(left, d.term(3, names...)))
	}
	return r
}

// spoil overwrites all memory that a term holds.
func spoil(t api.Term) {
	for i := range t.Args {
		spoil(t.Args[i])
	}
	l := t.Args[:cap(t.Args)]
	for i := range l {
		l[i] = f("spoilt")
	}
}

// spoilPos overwrites all memory that a position holds.
func spoilPos(pos []int) {
	l := pos[:cap(pos)]
	for i := range l {
		l[i] = -7
	}
}

// oddTerm is a term that is not valid, with its error.
type oddTerm struct {
	name string
	t    api.Term
	e    api.Errno
}

// oddTerms returns terms that are not valid.
func oddTerms() []oddTerm {
	ring := make([]api.Term, 2)
	ring[0], ring[1] = f("f", ring...), f("a")
	return []oddTerm{
		{"zero value", api.Term{}, api.ErrForm},
		{"marked variable", v("x#"), api.ErrForm},
		{"variable with an argument", api.Term{Name: "x", Var: true, Args: []api.Term{v("y")}}, api.ErrForm},
		{"symbol with a blank", f("f", f("a b")), api.ErrForm},
		{"long name", f(strings.Repeat("a", api.MaxName+1)), api.ErrForm},
		{"nine arguments", f("f", slices.Repeat([]api.Term{f("c")}, api.MaxArity+1)...), api.ErrForm},
		{"too deep", chain(api.MaxDeep, f("a")), api.ErrLimit},
		{"too large", wide(api.MaxSize+1, f("a")), api.ErrLimit},
		{"too large and malformed", f("f", wide(api.MaxSize, f("a")), v("-")), api.ErrForm},
		{"ring", ring[0], api.ErrLimit},
	}
}

// oddSystem is a slice of rules that is not a system, with its error.
type oddSystem struct {
	name string
	r    []api.Rule
	e    api.Errno
}

// oddSystems returns slices of rules that are no systems.
func oddSystems() []oddSystem {
	ab := rule(f("a"), f("b"))
	var list []oddSystem
	for _, x := range oddTerms() {
		list = append(list, oddSystem{x.name + " left", []api.Rule{ab, rule(x.t, f("b"))}, x.e})
		list = append(list, oddSystem{x.name + " right", []api.Rule{ab, rule(f("a"), x.t), rule(v("x"), f("a"))}, x.e})
	}
	return append(list,
		oddSystem{"too many rules", slices.Repeat([]api.Rule{rule(f(""), f(""))}, api.MaxRules+1), api.ErrLimit},
		oddSystem{"marked symbol", []api.Rule{ab, rule(v("x"), f("a#"))}, api.ErrName},
		oddSystem{"two arities", []api.Rule{ab, rule(f("a", v("x")), v("x"))}, api.ErrName},
		oddSystem{"variable on the left", []api.Rule{ab, rule(v("x"), f("a"))}, api.ErrVar},
		oddSystem{"extra variable", []api.Rule{ab, rule(f("g", v("x")), f("f", v("x"), v("y")))}, api.ErrVar},
	)
}

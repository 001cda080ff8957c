package derive_test

import (
	"fmt"
	"math"
	"slices"
	"strings"
	"testing"

	"dwindle/api"
	"dwindle/derive"
	"dwindle/read"
	"dwindle/rewrite"
	"dwindle/term"
)

// v returns a variable.
func v(name string) api.Term { return api.Term{Name: name, Var: true} }

// f returns a function symbol applied to arguments.
func f(name string, args ...api.Term) api.Term { return api.Term{Name: name, Args: args} }

// rule returns a rule.
func rule(left, right api.Term) api.Rule { return api.Rule{Left: left, Right: right} }

// step returns a step.
func step(rule int, pos ...int) api.Step { return api.Step{Rule: rule, Pos: pos} }

// chain returns a derivation.
func chain(start api.Term, steps ...api.Step) api.Chain { return api.Chain{Start: start, Steps: steps} }

// parse returns the term of a source, in which x, y and z are variables.
func parse(t *testing.T, s string) api.Term {
	t.Helper()
	x, at, e := read.Term(s, []string{"x", "y", "z"})
	if e != api.OK {
		t.Fatal(s, at, e)
	}
	return x
}

// system returns the rules of a source, in which x, y and z are variables.
func system(t *testing.T, s string) []api.Rule {
	t.Helper()
	r, at, e := read.System("(VAR x y z)(RULES " + s + ")")
	if e != api.OK {
		t.Fatal(s, at, e)
	}
	return r
}

// tower returns a term below so many unary symbols.
func tower(n int, t api.Term) api.Term {
	for range n {
		t = f("s", t)
	}
	return t
}

// wide returns a term with exactly n nodes and a small depth, in which the leaf occurs as often as possible.
func wide(n int, leaf api.Term) api.Term {
	if n == 1 {
		return leaf
	}
	rest := n - 1
	count := min(rest, api.MaxArity)
	t := f(fmt.Sprint("w", count))
	for i := range count {
		share := rest / (count - i)
		t.Args = append(t.Args, wide(share, leaf))
		rest -= share
	}
	return t
}

// swaps returns so many steps at the root that apply the rules 0 and 1 in turn.
func swaps(n int) []api.Step {
	var list []api.Step
	for i := range n {
		list = append(list, step(i%2))
	}
	return list
}

// show writes any term; variables are marked by a question mark.
func show(t api.Term) string {
	s := t.Name
	if t.Var {
		s = "?" + s
	}
	if len(t.Args) == 0 {
		return s
	}
	var l []string
	for _, x := range t.Args {
		l = append(l, show(x))
	}
	return s + "(" + strings.Join(l, ", ") + ")"
}

// showTerms writes any terms.
func showTerms(list []api.Term) string {
	var l []string
	for _, x := range list {
		l = append(l, show(x))
	}
	return strings.Join(l, "; ")
}

// showSteps writes any steps, each as the index of the rule and the position.
func showSteps(l []api.Step) string {
	var list []string
	for _, s := range l {
		list = append(list, fmt.Sprintf("%d%v", s.Rule, s.Pos))
	}
	return strings.Join(list, " ")
}

// showChain writes any derivation.
func showChain(c api.Chain) string {
	return show(c.Start) + " by " + showSteps(c.Steps)
}

// showEdges writes any edges, each as the index of the rule and the position between the two indices of terms.
func showEdges(l []api.Edge) string {
	var list []string
	for _, e := range l {
		list = append(list, fmt.Sprintf("%d-%d%v-%d", e.From, e.Step.Rule, e.Step.Pos, e.To))
	}
	return strings.Join(list, " ")
}

// showGraph writes any graph.
func showGraph(g api.Graph) string {
	return fmt.Sprintf("%s / %s / %v", showTerms(g.Terms), showEdges(g.Edges), g.Whole)
}

// showSubst writes any substitution.
func showSubst(s []api.Bind) string {
	var l []string
	for _, b := range s {
		l = append(l, b.Name+" = "+show(b.Term))
	}
	return strings.Join(l, "; ")
}

// showSystem writes any rules.
func showSystem(r []api.Rule) string {
	var l []string
	for _, x := range r {
		l = append(l, show(x.Left)+" -> "+show(x.Right))
	}
	return strings.Join(l, "; ")
}

// strategies are all strategies.
func strategies() []int {
	return []int{api.StAny, api.StInner, api.StOuter, api.StLeft, api.StFirst}
}

// notStrategies are numbers that are no strategies.
func notStrategies() []int {
	return []int{0, api.StFirst + 1, -1, math.MaxInt, math.MinInt}
}

// do performs a step that must be possible.
func do(t *testing.T, r []api.Rule, x api.Term, s api.Step) api.Term {
	t.Helper()
	y, e := rewrite.Step(r, x, s)
	if e != api.OK {
		t.Fatal(showSystem(r), show(x), s, e)
	}
	return y
}

// redexes returns the steps of a term under a strategy.
func redexes(t *testing.T, r []api.Rule, x api.Term, strategy int) []api.Step {
	t.Helper()
	l, e := rewrite.Redexes(r, x, strategy)
	if e != api.OK {
		t.Fatal(showSystem(r), show(x), strategy, e)
	}
	return l
}

// termsOf performs a derivation whose steps must be possible.
func termsOf(t *testing.T, r []api.Rule, c api.Chain) []api.Term {
	t.Helper()
	list := []api.Term{c.Start}
	for i, s := range c.Steps {
		list = append(list, do(t, r, list[i], s))
	}
	return list
}

// graphOf builds a reduction graph by the definition.
func graphOf(t *testing.T, r []api.Rule, x api.Term, most int) api.Graph {
	t.Helper()
	g := api.Graph{Terms: []api.Term{x}, Whole: true}
	for i := 0; i < len(g.Terms); i++ {
		for _, s := range redexes(t, r, g.Terms[i], api.StAny) {
			y := do(t, r, g.Terms[i], s)
			to := slices.IndexFunc(g.Terms, func(z api.Term) bool { return term.Equal(y, z) })
			if to < 0 && len(g.Terms) == most {
				g.Whole = false
				continue
			}
			if to < 0 {
				to = len(g.Terms)
				g.Terms = append(g.Terms, y)
			}
			g.Edges = append(g.Edges, api.Edge{From: i, To: to, Step: s})
		}
	}
	return g
}

// systems are systems that differ in what their left sides look like and in whether they terminate.
func systems(t *testing.T) [][]api.Rule {
	var list [][]api.Rule
	for _, s := range []string{
		"",
		"a -> b f(x, x) -> x",
		"a -> a",
		"a -> b b -> a",
		"f(x, y) -> f(y, x)",
		"f(x, y) -> x f(x, y) -> y g(x) -> x",
		"f(a, y) -> y f(g(x), y) -> g(f(x, y))",
		"g(x) -> f(x, x) g(g(x)) -> x g(a) -> b a -> g(a) g(x) -> g(x)",
		"f(x, f(y, x)) -> y f(x, x) -> a g(f(x, y)) -> f(y, g(x)) g(f(x, x)) -> b",
		"f(f(x, y), z) -> f(x, f(y, z)) f(x, g(x)) -> a f(a, x) -> x f(x, a) -> x",
	} {
		list = append(list, system(t, s))
	}
	d := dice(1)
	for range 20 {
		list = append(list, d.system())
	}
	return list
}

// dice returns the same numbers below n in every run.
type dice uint32

func (d *dice) below(n int) int {
	*d = *d*1664525 + 1013904223
	return int(*d>>8) % n
}

// term returns a term of at most this depth over f, g, a, b and these variables.
func (d *dice) term(depth int, vars ...string) api.Term {
	n := d.below(10)
	if len(vars) > 0 && (n < 2 || depth == 1 && n < 6) {
		return v(vars[d.below(len(vars))])
	}
	if depth == 1 || n < 3 {
		return f([]string{"a", "b"}[d.below(2)])
	}
	if n < 5 {
		return f("g", d.term(depth-1, vars...))
	}
	return f("f", d.term(depth-1, vars...), d.term(depth-1, vars...))
}

// system returns a system of one to four rules.
func (d *dice) system() []api.Rule {
	var r []api.Rule
	for range 1 + d.below(4) {
		left := d.term(3, "x", "y")
		for left.Var {
			left = d.term(3, "x", "y")
		}
		names, _ := term.Vars(left)
		r = append(r, rule(left, d.term(2, names...)))
	}
	return r
}

// chain returns a derivation from x with at most so many steps.
func (d *dice) chain(t *testing.T, r []api.Rule, x api.Term, most int) api.Chain {
	t.Helper()
	c := api.Chain{Start: x}
	for range most {
		l := redexes(t, r, x, api.StAny)
		if len(l) == 0 || term.Size(x) > 100 {
			break
		}
		s := l[d.below(len(l))]
		c.Steps = append(c.Steps, s)
		x = do(t, r, x, s)
	}
	return c
}

// last returns the last term of a derivation.
func last(t *testing.T, r []api.Rule, c api.Chain) api.Term {
	t.Helper()
	x, e := derive.Last(r, c)
	if e != api.OK {
		t.Fatal(showSystem(r), showChain(c), e)
	}
	return x
}

// spoil overwrites all memory that a term holds.
func spoil(t api.Term) {
	for i := range t.Args {
		spoil(t.Args[i])
	}
	l := t.Args[:cap(t.Args)]
	for i := range l {
		l[i] = f("spoilt")
	}
}

// spoilPos overwrites all memory that a position holds.
func spoilPos(pos []int) {
	l := pos[:cap(pos)]
	for i := range l {
		l[i] = -7
	}
}

// spoilChain overwrites all memory that a derivation holds.
func spoilChain(c api.Chain) {
	spoil(c.Start)
	for _, s := range c.Steps {
		spoilPos(s.Pos)
	}
	l := c.Steps[:cap(c.Steps)]
	for i := range l {
		l[i] = step(-7)
	}
}

// oddTerm is a term that is not valid, with its error.
type oddTerm struct {
	name string
	t    api.Term
	e    api.Errno
}

// oddTerms returns terms that are not valid.
func oddTerms() []oddTerm {
	ring := make([]api.Term, 2)
	ring[0], ring[1] = f("f", ring...), f("a")
	return []oddTerm{
		{"zero value", api.Term{}, api.ErrForm},
		{"marked variable", v("x#"), api.ErrForm},
		{"variable with an argument", api.Term{Name: "x", Var: true, Args: []api.Term{v("y")}}, api.ErrForm},
		{"symbol with a blank", f("f", f("a b")), api.ErrForm},
		{"long name", f(strings.Repeat("a", api.MaxName+1)), api.ErrForm},
		{"nine arguments", f("f", slices.Repeat([]api.Term{f("c")}, api.MaxArity+1)...), api.ErrForm},
		{"too deep", tower(api.MaxDeep, f("a")), api.ErrLimit},
		{"too large", wide(api.MaxSize+1, f("a")), api.ErrLimit},
		{"too large and malformed", f("f", wide(api.MaxSize, f("a")), v("-")), api.ErrForm},
		{"ring", ring[0], api.ErrLimit},
	}
}

// oddSystem is a slice of rules that is not a system, with its error.
type oddSystem struct {
	name string
	r    []api.Rule
	e    api.Errno
}

// oddSystems returns slices of rules that are no systems.
func oddSystems() []oddSystem {
	ab := rule(f("a"), f("b"))
	var list []oddSystem
	for _, x := range oddTerms() {
		list = append(list, oddSystem{x.name + " left", []api.Rule{ab, rule(x.t, f("b"))}, x.e})
		list = append(list, oddSystem{x.name + " right", []api.Rule{ab, rule(f("a"), x.t), rule(v("x"), f("a"))}, x.e})
	}
	return append(list,
		oddSystem{"too many rules", slices.Repeat([]api.Rule{rule(f(""), f(""))}, api.MaxRules+1), api.ErrLimit},
		oddSystem{"marked symbol", []api.Rule{ab, rule(v("x"), f("a#"))}, api.ErrName},
		oddSystem{"two arities", []api.Rule{ab, rule(f("a", v("x")), v("x"))}, api.ErrName},
		oddSystem{"variable on the left", []api.Rule{ab, rule(v("x"), f("a"))}, api.ErrVar},
		oddSystem{"extra variable", []api.Rule{ab, rule(f("g", v("x")), f("f", v("x"), v("y")))}, api.ErrVar},
	)
}

// oddChain is a derivation that is not possible with the rules of plainRules, with its error.
type oddChain struct {
	name string
	c    api.Chain
	e    api.Errno
}

// plainRules are the rules of the tests of errors.
func plainRules(t *testing.T) []api.Rule {
	return system(t, "a -> b f(x, x) -> x b -> s(a) d(x) -> e(x, x, c)")
}

// oddChains returns derivations that are not possible.
func oddChains() []oddChain {
	list := []oddChain{
		{"too many steps", chain(f("a"), swaps(api.MaxSteps+1)...), api.ErrLimit},
		{"too many steps from no term", chain(f("-"), swaps(api.MaxSteps+1)...), api.ErrLimit},
		{"too many steps, all odd", chain(f("a"), slices.Repeat([]api.Step{step(-1)}, api.MaxSteps+1)...), api.ErrLimit},
		{"does not apply", chain(f("b"), step(0)), api.ErrStep},
		{"does not apply to a variable", chain(v("a"), step(0)), api.ErrStep},
		{"does not apply to a marked symbol", chain(f("a#"), step(0)), api.ErrStep},
		{"different arguments", chain(f("f", f("a"), f("b")), step(1)), api.ErrStep},
		{"variable and constant", chain(f("f", v("a"), f("a")), step(1)), api.ErrStep},
		{"second step does not apply", chain(f("a"), step(0), step(0)), api.ErrStep},
		{"then an odd rule", chain(f("a"), step(0), step(0), step(-1)), api.ErrStep},
		{"odd rule, then one that does not apply", chain(f("a"), step(0), step(9), step(1)), api.ErrRange},
		{"too deep", chain(tower(api.MaxDeep-1, f("b")), step(2, make([]int, api.MaxDeep-1)...), step(-1)), api.ErrLimit},
		{"too large", chain(f("d", wide(2000, f("c"))), step(3), step(1)), api.ErrLimit},
		{"too large after a step", chain(f("h", f("a"), f("d", wide(2000, f("c")))), step(0, 0), step(3, 1)), api.ErrLimit},
	}
	for _, i := range []int{-1, 4, api.MaxRules, math.MaxInt, math.MinInt} {
		list = append(list, oddChain{fmt.Sprint("rule ", i), chain(f("a"), step(i)), api.ErrRange})
	}
	for _, pos := range [][]int{{0}, {-1}, {math.MaxInt}, {math.MinInt}, make([]int, 1000)} {
		list = append(list, oddChain{fmt.Sprint("position ", pos), chain(f("a"), step(0), step(2, pos...)), api.ErrRange})
	}
	for _, x := range oddTerms() {
		list = append(list, oddChain{x.name, chain(x.t), x.e}, oddChain{x.name + " and odd steps", chain(x.t, step(-1), step(0, 7)), x.e})
	}
	return list
}

// oddSubst is a slice of bindings that is no substitution, with its error.
type oddSubst struct {
	name string
	s    []api.Bind
	e    api.Errno
}

// oddSubsts returns slices of bindings that are no substitutions.
func oddSubsts() []oddSubst {
	deep := tower(api.MaxDeep, f("a"))
	list := []oddSubst{
		{"no name", []api.Bind{{Name: "", Term: f("a")}}, api.ErrForm},
		{"marked name", []api.Bind{{Name: "x#", Term: f("a")}}, api.ErrForm},
		{"equal names", []api.Bind{{Name: "x", Term: f("a")}, {Name: "x", Term: f("a")}}, api.ErrForm},
		{"decreasing names", []api.Bind{{Name: "y", Term: f("a")}, {Name: "x", Term: f("a")}}, api.ErrForm},
		{"odd name after an odd term", []api.Bind{{Name: "x", Term: deep}, {Name: "-", Term: f("a")}}, api.ErrForm},
		{"two odd terms", []api.Bind{{Name: "x", Term: deep}, {Name: "y", Term: f("-")}}, api.ErrLimit},
	}
	for _, x := range oddTerms() {
		list = append(list, oddSubst{x.name, []api.Bind{{Name: "x", Term: f("a")}, {Name: "z", Term: x.t}}, x.e})
	}
	return list
}

package weight_test

import (
	"fmt"
	"math"
	"slices"
	"strings"
	"testing"

	"dwindle/api"
	"dwindle/read"
	"dwindle/term"
	"dwindle/weight"
)

// v returns a variable.
func v(name string) api.Term { return api.Term{Name: name, Var: true} }

// f returns a function symbol applied to arguments.
func f(name string, args ...api.Term) api.Term { return api.Term{Name: name, Args: args} }

// rule returns a rule.
func rule(left, right api.Term) api.Rule { return api.Rule{Left: left, Right: right} }

// ranks returns the list of a string such as "f 2/0 g 1/3": each symbol with its rank and its weight.
func ranks(t *testing.T, s string) []api.Rank {
	t.Helper()
	var l []api.Rank
	words := strings.Fields(s)
	for i := 0; i < len(words); i += 2 {
		x := api.Rank{Name: words[i]}
		if _, err := fmt.Sscanf(words[i+1], "%d/%d", &x.Rank, &x.Weight); err != nil {
			t.Fatal(s, err)
		}
		l = append(l, x)
	}
	return l
}

// arities returns the symbols of a string such as "f/2 a/0".
func arities(t *testing.T, s string) []api.Symbol {
	t.Helper()
	var list []api.Symbol
	for _, word := range strings.Fields(s) {
		name, number, _ := strings.Cut(word, "/")
		x := api.Symbol{Name: name}
		if _, err := fmt.Sscan(number, &x.Arity); err != nil {
			t.Fatal(s, err)
		}
		list = append(list, x)
	}
	return list
}

// parse returns the term of a source, in which x, y and z are variables.
func parse(t *testing.T, s string) api.Term {
	t.Helper()
	x, at, e := read.Term(s, []string{"x", "y", "z"})
	if e != api.OK {
		t.Fatal(s, at, e)
	}
	return x
}

// system returns the rules of a source, in which x, y and z are variables.
func system(t *testing.T, s string) []api.Rule {
	t.Helper()
	r, at, e := read.System("(VAR x y z)(RULES " + s + ")")
	if e != api.OK {
		t.Fatal(s, at, e)
	}
	return r
}

// tower returns a term below so many symbols with one argument.
func tower(n int, symbol string, t api.Term) api.Term {
	for range n {
		t = f(symbol, t)
	}
	return t
}

// wide returns a term with exactly n nodes and a small depth, in which the leaf occurs as often as possible.
func wide(n int, symbol string, leaf api.Term) api.Term {
	if n == 1 {
		return leaf
	}
	rest := n - 1
	count := min(rest, api.MaxArity)
	t := f(symbol)
	for i := range count {
		share := rest / (count - i)
		t.Args = append(t.Args, wide(share, symbol, leaf))
		rest -= share
	}
	return t
}

// spine returns a term with almost the largest size and depth, with x at its end.
func spine(x api.Term) api.Term {
	t := x
	for range api.MaxDeep - 2 {
		t = f("p", wide(9, "w", v("y")), wide(9, "w", v("z")), t)
	}
	return t
}

// show writes any term; variables are marked by a question mark.
func show(t api.Term) string {
	s := t.Name
	if t.Var {
		s = "?" + s
	}
	if len(t.Args) == 0 {
		return s
	}
	var l []string
	for _, x := range t.Args {
		l = append(l, show(x))
	}
	return s + "(" + strings.Join(l, ", ") + ")"
}

// showSystem writes any rules.
func showSystem(r []api.Rule) string {
	var l []string
	for _, x := range r {
		l = append(l, show(x.Left)+" -> "+show(x.Right))
	}
	return strings.Join(l, "; ")
}

// order is a weight order.
type order struct {
	l    []api.Rank
	unit int
}

// greater compares two terms for which there must be no error.
func (o order) greater(t *testing.T, a, b api.Term) bool {
	t.Helper()
	ok, e := weight.Greater(o.l, o.unit, a, b)
	if e != api.OK {
		t.Fatal(o, show(a), show(b), e)
	}
	return ok
}

// expectGreater reports a comparison with another answer.
func (o order) expectGreater(t *testing.T, a, b api.Term, want bool) {
	t.Helper()
	if ok := o.greater(t, a, b); ok != want {
		t.Error(o, show(a), show(b), ok)
	}
}

// expectSame reports a comparison with another answer or error than the text of P7.4 has, and returns the answer.
func (o order) expectSame(t *testing.T, a, b api.Term) bool {
	t.Helper()
	ok, e := weight.Greater(o.l, o.unit, a, b)
	if !o.admits(symbolsOf(a, b)) {
		if ok || e != api.ErrOrder {
			t.Error(o, show(a), show(b), ok, e)
		}
		return false
	}
	if ok != o.above(a, b) || e != api.OK {
		t.Error(o, show(a), show(b), ok, e)
	}
	return ok
}

// listed returns the entry of a symbol.
func (o order) listed(name string) api.Rank {
	for _, x := range o.l {
		if x.Name == name {
			return x
		}
	}
	return api.Rank{}
}

// admits follows the text of P7.2.
func (o order) admits(symbols []api.Symbol) bool {
	for _, x := range symbols {
		if x.Arity == 0 && o.listed(x.Name).Weight < o.unit {
			return false
		}
		for _, y := range symbols {
			if x.Arity == 1 && o.listed(x.Name).Weight == 0 && y != x && o.listed(x.Name).Rank <= o.listed(y.Name).Rank {
				return false
			}
		}
	}
	return true
}

// weigh follows the text of P7.3.
func (o order) weigh(t api.Term) int {
	sum := 0
	for _, x := range subterms(t) {
		if x.Var {
			sum += o.unit
		} else {
			sum += o.listed(x.Name).Weight
		}
	}
	return sum
}

// above follows the text of P7.4.
func (o order) above(s, t api.Term) bool {
	for _, x := range subterms(t) {
		if x.Var && term.Count(t, x.Name) > term.Count(s, x.Name) {
			return false
		}
	}
	if o.weigh(s) != o.weigh(t) {
		return o.weigh(s) > o.weigh(t)
	}
	if term.Equal(s, t) || s.Var {
		return false
	}
	if t.Var || o.listed(s.Name).Rank > o.listed(t.Name).Rank {
		return true
	}
	if s.Name != t.Name || len(s.Args) != len(t.Args) {
		return false
	}
	for i := range s.Args {
		if !term.Equal(s.Args[i], t.Args[i]) {
			return o.above(s.Args[i], t.Args[i])
		}
	}
	return false
}

// subterms returns a term and all its proper subterms.
func subterms(t api.Term) []api.Term {
	list := []api.Term{t}
	for _, x := range t.Args {
		list = append(list, subterms(x)...)
	}
	return list
}

// symbolsOf returns the different function symbols of terms.
func symbolsOf(terms ...api.Term) []api.Symbol {
	var list []api.Symbol
	for _, t := range terms {
		for _, x := range subterms(t) {
			symbol := api.Symbol{Name: x.Name, Arity: len(x.Args)}
			if !x.Var && !slices.Contains(list, symbol) {
				list = append(list, symbol)
			}
		}
	}
	return list
}

// sides returns the terms of rules.
func sides(r []api.Rule) []api.Term {
	var list []api.Term
	for _, x := range r {
		list = append(list, x.Left, x.Right)
	}
	return list
}

// grow returns terms and what f and g with one argument and f with two arguments make of them.
func grow(small []api.Term) []api.Term {
	list := slices.Clone(small)
	for _, x := range small {
		list = append(list, f("g", x), f("f", x))
		for _, y := range small {
			list = append(list, f("f", x, y))
		}
	}
	return list
}

// flatTerms returns terms of depth 1 and 2. The variable and the constant a have the same name, and so have two symbols
// with different numbers of arguments.
func flatTerms() []api.Term {
	return grow([]api.Term{v("a"), v("x"), f("a"), f("b")})
}

// orders returns all orders of a, b, f and g with ranks and weights below these numbers and the units 1 and 2.
func orders(rank, weight int) []order {
	list := []order{{nil, 1}, {nil, 2}}
	for _, name := range []string{"a", "b", "f", "g"} {
		var longer []order
		for _, o := range list {
			for i := range rank * weight {
				l := append(slices.Clone(o.l), api.Rank{Name: name, Rank: i / weight, Weight: i % weight})
				longer = append(longer, order{l, o.unit})
			}
		}
		list = longer
	}
	return list
}

// dice returns the same numbers below n in every run.
type dice uint32

func (d *dice) below(n int) int {
	*d = *d*1664525 + 1013904223
	return int(*d>>8) % n
}

// term returns a term of at most this depth over f, g, a, b and these variables.
func (d *dice) term(depth int, vars ...string) api.Term {
	n := d.below(10)
	if len(vars) > 0 && (n < 2 || depth == 1 && n < 6) {
		return v(vars[d.below(len(vars))])
	}
	if depth == 1 || n < 3 {
		return f([]string{"a", "b"}[d.below(2)])
	}
	if n < 6 {
		return f("g", d.term(depth-1, vars...))
	}
	return f("f", d.term(depth-1, vars...), d.term(depth-1, vars...))
}

// order returns an order of a, b, f and g.
func (d *dice) order() order {
	var l []api.Rank
	for _, name := range []string{"a", "b", "f", "g"} {
		l = append(l, api.Rank{Name: name, Rank: d.below(3), Weight: d.below(3)})
	}
	return order{l, 1 + d.below(2)}
}

// admissible returns an order that is admissible for the constants a and b, g with one argument and f with two. The
// weights of f and g are often 0.
func (d *dice) admissible() order {
	for {
		o := d.order()
		for i := range o.l {
			if d.below(2) == 0 {
				o.l[i].Weight = 0
			}
			if o.l[i].Name < "c" {
				o.l[i].Weight += o.unit
			}
		}
		if o.admits([]api.Symbol{{Name: "a"}, {Name: "b"}, {Name: "f", Arity: 2}, {Name: "g", Arity: 1}}) {
			return o
		}
	}
}

// change returns a term with one of its subterms replaced by one of the others, or by a new one.
func (d *dice) change(t api.Term) api.Term {
	positions, _ := term.Positions(t)
	list := append(subterms(t), d.term(2, "x", "y"))
	u, _ := term.Put(t, positions[d.below(len(positions))], list[d.below(len(list))])
	return u
}

// system returns a system of one to three rules.
func (d *dice) system() []api.Rule {
	var r []api.Rule
	for range 1 + d.below(3) {
		left := d.term(4, "x", "y")
		for left.Var {
			left = d.term(4, "x", "y")
		}
		names, _ := term.Vars(left)
		r = append(r, rule(left, d.term(3, names...)))
	}
	return r
}

// oddTerm is a term that is not valid, with its error.
type oddTerm struct {
	name string
	t    api.Term
	e    api.Errno
}

// oddTerms returns terms that are not valid.
func oddTerms() []oddTerm {
	ring := make([]api.Term, 2)
	ring[0], ring[1] = f("f", ring...), f("a")
	return []oddTerm{
		{"zero value", api.Term{}, api.ErrForm},
		{"marked variable", v("x#"), api.ErrForm},
		{"variable with an argument", api.Term{Name: "x", Var: true, Args: []api.Term{v("y")}}, api.ErrForm},
		{"symbol with a blank", f("f", f("a b")), api.ErrForm},
		{"long name", f(strings.Repeat("a", api.MaxName+1)), api.ErrForm},
		{"nine arguments", f("f", slices.Repeat([]api.Term{f("c")}, api.MaxArity+1)...), api.ErrForm},
		{"too deep", tower(api.MaxDeep, "s", f("a")), api.ErrLimit},
		{"too large", wide(api.MaxSize+1, "w", f("a")), api.ErrLimit},
		{"too large and malformed", f("f", wide(api.MaxSize, "w", f("a")), v("-")), api.ErrForm},
		{"ring", ring[0], api.ErrLimit},
	}
}

// oddSystem is a slice of rules that is not a system, with its error.
type oddSystem struct {
	name string
	r    []api.Rule
	e    api.Errno
}

// oddSystems returns slices of rules that are no systems.
func oddSystems() []oddSystem {
	ab := rule(f("a"), f("b"))
	var list []oddSystem
	for _, x := range oddTerms() {
		list = append(list, oddSystem{x.name + " left", []api.Rule{ab, rule(x.t, f("b"))}, x.e})
		list = append(list, oddSystem{x.name + " right", []api.Rule{ab, rule(f("a"), x.t), rule(v("x"), f("a"))}, x.e})
	}
	return append(list,
		oddSystem{"too many rules", slices.Repeat([]api.Rule{rule(f(""), f(""))}, api.MaxRules+1), api.ErrLimit},
		oddSystem{"marked symbol", []api.Rule{ab, rule(v("x"), f("a#"))}, api.ErrName},
		oddSystem{"two arities", []api.Rule{ab, rule(f("a", v("x")), v("x"))}, api.ErrName},
		oddSystem{"variable on the left", []api.Rule{ab, rule(v("x"), f("a"))}, api.ErrVar},
		oddSystem{"extra variable", []api.Rule{ab, rule(f("g", v("x")), f("f", v("x"), v("y")))}, api.ErrVar},
	)
}

// oddOrder is no weight order, with its error.
type oddOrder struct {
	name string
	order
	e api.Errno
}

// oddNames returns strings that are no names of function symbols.
func oddNames() []string {
	return []string{"", "#", "a b", "a##", "a#b", "#a", "é", "f(", "a\x00", "a-", strings.Repeat("f", api.MaxName+1), strings.Repeat("f", api.MaxName) + "#"}
}

// oddOrders returns lists and units that are no weight orders.
func oddOrders() []oddOrder {
	a := api.Rank{Name: "a", Rank: 1, Weight: 1}
	var list []oddOrder
	add := func(name string, unit int, e api.Errno, l ...api.Rank) {
		list = append(list, oddOrder{name, order{l, unit}, e})
	}
	for _, name := range oddNames() {
		add("alone "+name, 1, api.ErrForm, api.Rank{Name: name})
		add("after "+name, 0, api.ErrForm, api.Rank{Name: "A", Rank: -1}, api.Rank{Name: name, Weight: -1})
		add("first "+name, 1, api.ErrForm, api.Rank{Name: name}, api.Rank{Name: "zz"})
	}
	for _, n := range []int{-1, api.MaxRank + 1, math.MaxInt, math.MinInt} {
		add(fmt.Sprint("rank ", n), 1, api.ErrArg, a, api.Rank{Name: "b", Rank: n})
		add(fmt.Sprint("rank first ", n), 1, api.ErrArg, api.Rank{Name: "A", Rank: n}, a)
		add(fmt.Sprint("rank, then an odd name ", n), 1, api.ErrForm, api.Rank{Name: "A", Rank: n}, a, api.Rank{Name: "-"})
		add(fmt.Sprint("weight ", n), 1, api.ErrArg, a, api.Rank{Name: "b", Weight: n})
		add(fmt.Sprint("weight first ", n), 1, api.ErrArg, api.Rank{Name: "A", Weight: n}, a)
		add(fmt.Sprint("weight, then equal names ", n), 1, api.ErrForm, api.Rank{Name: "A", Weight: n}, a, a)
	}
	for _, n := range []int{0, -1, api.MaxRank + 1, math.MaxInt, math.MinInt} {
		add(fmt.Sprint("unit ", n), n, api.ErrArg, a)
		add(fmt.Sprint("unit alone ", n), n, api.ErrArg)
		add(fmt.Sprint("unit and equal names ", n), n, api.ErrForm, a, a)
		add(fmt.Sprint("unit and too many ", n), n, api.ErrLimit, symbols(api.MaxSymbols+1)...)
	}
	add("equal names", 1, api.ErrForm, a, a)
	add("equal names, different ranks", 1, api.ErrForm, a, api.Rank{Name: "a", Rank: 2})
	add("decreasing names", 1, api.ErrForm, api.Rank{Name: "b"}, a)
	add("names not in byte order", 1, api.ErrForm, a, api.Rank{Name: "B"})
	add("mark before no mark", 1, api.ErrForm, api.Rank{Name: "a#"}, a)
	add("longer before shorter", 1, api.ErrForm, api.Rank{Name: "aa"}, a)
	add("too many", 1, api.ErrLimit, symbols(api.MaxSymbols+1)...)
	add("too many, all odd", 1, api.ErrLimit, slices.Repeat([]api.Rank{{Name: "-", Rank: -1}}, 5000)...)
	return list
}

// symbols returns a list of so many symbols.
func symbols(n int) []api.Rank {
	var l []api.Rank
	for i := range n {
		l = append(l, api.Rank{Name: fmt.Sprintf("f%04d", i), Rank: i, Weight: api.MaxRank - i})
	}
	return l
}

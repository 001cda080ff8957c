package poly_test

import (
	"fmt"
	"math"
	"math/big"
	"slices"
	"strings"
	"testing"

	"dwindle/api"
	"dwindle/poly"
	"dwindle/read"
	"dwindle/term"
)

// v returns a variable.
func v(name string) api.Term { return api.Term{Name: name, Var: true} }

// f returns a function symbol applied to arguments.
func f(name string, args ...api.Term) api.Term { return api.Term{Name: name, Args: args} }

// rule returns a rule.
func rule(left, right api.Term) api.Rule { return api.Rule{Left: left, Right: right} }

// mono returns a monomial.
func mono(coef uint64, exps ...int) api.Mono { return api.Mono{Coef: coef, Exps: exps} }

// monos returns the monomials of a string such as "3:00 1:02": each coefficient with the digits of its exponents.
func monos(t *testing.T, s string) []api.Mono {
	t.Helper()
	var list []api.Mono
	for _, word := range strings.Fields(s) {
		number, digits, _ := strings.Cut(word, ":")
		m := api.Mono{}
		if _, err := fmt.Sscan(number, &m.Coef); err != nil {
			t.Fatal(s, err)
		}
		for _, c := range digits {
			m.Exps = append(m.Exps, int(c-'0'))
		}
		list = append(list, m)
	}
	return list
}

// polys returns the interpretation of a string such as "add 1:00 1:01 2:10; zero; s 1:0 1:1".
func polys(t *testing.T, s string) []api.Poly {
	t.Helper()
	var l []api.Poly
	for _, part := range strings.Split(s, ";") {
		name, rest, _ := strings.Cut(strings.TrimSpace(part), " ")
		if name != "" {
			l = append(l, api.Poly{Name: name, Monos: monos(t, rest)})
		}
	}
	return l
}

// arities returns the symbols of a string such as "f/2 a/0".
func arities(t *testing.T, s string) []api.Symbol {
	t.Helper()
	var list []api.Symbol
	for _, word := range strings.Fields(s) {
		name, number, _ := strings.Cut(word, "/")
		x := api.Symbol{Name: name}
		if _, err := fmt.Sscan(number, &x.Arity); err != nil {
			t.Fatal(s, err)
		}
		list = append(list, x)
	}
	return list
}

// parse returns the term of a source, in which x, y and z are variables.
func parse(t *testing.T, s string) api.Term {
	t.Helper()
	x, at, e := read.Term(s, []string{"x", "y", "z"})
	if e != api.OK {
		t.Fatal(s, at, e)
	}
	return x
}

// system returns the rules of a source, in which x, y and z are variables.
func system(t *testing.T, s string) []api.Rule {
	t.Helper()
	r, at, e := read.System("(VAR x y z)(RULES " + s + ")")
	if e != api.OK {
		t.Fatal(s, at, e)
	}
	return r
}

// tower returns a term below so many symbols with one argument.
func tower(n int, symbol string, t api.Term) api.Term {
	for range n {
		t = f(symbol, t)
	}
	return t
}

// wide returns a term with exactly n nodes and a small depth, in which the leaf occurs as often as possible.
func wide(n int, symbol string, leaf api.Term) api.Term {
	if n == 1 {
		return leaf
	}
	rest := n - 1
	count := min(rest, api.MaxArity)
	t := f(symbol)
	for i := range count {
		share := rest / (count - i)
		t.Args = append(t.Args, wide(share, symbol, leaf))
		rest -= share
	}
	return t
}

// join returns a term that applies a symbol with two arguments to one term after the other.
func join(symbol string, list ...api.Term) api.Term {
	t := list[0]
	for _, x := range list[1:] {
		t = f(symbol, t, x)
	}
	return t
}

// vars returns so many variables.
func vars(n int, prefix string) []api.Term {
	var list []api.Term
	for i := range n {
		list = append(list, v(fmt.Sprintf("%s%03d", prefix, i)))
	}
	return list
}

// show writes any term; variables are marked by a question mark.
func show(t api.Term) string {
	s := t.Name
	if t.Var {
		s = "?" + s
	}
	if len(t.Args) == 0 {
		return s
	}
	var l []string
	for _, x := range t.Args {
		l = append(l, show(x))
	}
	return s + "(" + strings.Join(l, ", ") + ")"
}

// showSystem writes any rules.
func showSystem(r []api.Rule) string {
	var l []string
	for _, x := range r {
		l = append(l, show(x.Left)+" -> "+show(x.Right))
	}
	return strings.Join(l, "; ")
}

// alike reports whether monomials are equal; nil and empty lists of exponents are.
func alike(a, b []api.Mono) bool {
	return slices.EqualFunc(a, b, func(x, y api.Mono) bool { return x.Coef == y.Coef && slices.Equal(x.Exps, y.Exps) })
}

// number is a value that may be larger than MaxValue.
func number(n uint64) *big.Int { return new(big.Int).SetUint64(n) }

// item is a monomial without limits.
type item struct {
	coef *big.Int
	exps []int
}

// literal is a polynomial without limits: the items by the text of their exponents.
type literal map[string]item

// add adds an item.
func (p literal) add(coef *big.Int, exps []int) {
	key := fmt.Sprint(exps)
	sum := new(big.Int).Set(coef)
	if old, known := p[key]; known {
		sum.Add(sum, old.coef)
	}
	if sum.Sign() != 0 {
		p[key] = item{sum, exps}
	}
}

// times returns a product of polynomials.
func (p literal) times(q literal) literal {
	result := literal{}
	for _, a := range p {
		for _, b := range q {
			exps := slices.Clone(a.exps)
			for i := range exps {
				exps[i] += b.exps[i]
			}
			result.add(new(big.Int).Mul(a.coef, b.coef), exps)
		}
	}
	return result
}

// fits reports whether a polynomial is within the limits of P8.2.
func (p literal) fits() bool {
	for _, x := range p {
		if x.coef.Cmp(number(api.MaxValue)) > 0 || slices.ContainsFunc(x.exps, func(exp int) bool { return exp > api.MaxCoef }) {
			return false
		}
	}
	return len(p) <= api.MaxTerms
}

// sorted returns the monomials of a polynomial that is within the limits.
func (p literal) sorted() []api.Mono {
	var list []api.Mono
	for _, x := range p {
		list = append(list, api.Mono{Coef: x.coef.Uint64(), Exps: x.exps})
	}
	slices.SortFunc(list, func(a, b api.Mono) int { return slices.Compare(a.Exps, b.Exps) })
	return list
}

// interpretation is a list of polynomials.
type interpretation []api.Poly

// listed returns the monomials of a symbol with so many arguments.
func (l interpretation) listed(name string, arity int) []api.Mono {
	for _, x := range l {
		if x.Name == name {
			return x.Monos
		}
	}
	var sum []api.Mono
	for i := range arity {
		m := api.Mono{Coef: 1, Exps: make([]int, arity)}
		m.Exps[i] = 1
		sum = append(sum, m)
	}
	return sum
}

// literal follows the text of P8.2, without the limits.
func (l interpretation) literal(names []string, t api.Term) literal {
	none := make([]int, len(names))
	if t.Var {
		exps := slices.Clone(none)
		exps[slices.Index(names, t.Name)] = 1
		return literal{fmt.Sprint(exps): {number(1), exps}}
	}
	result := literal{}
	for _, m := range l.listed(t.Name, len(t.Args)) {
		product := literal{}
		product.add(number(m.Coef), none)
		for i, x := range t.Args {
			for range m.Exps[i] {
				product = product.times(l.literal(names, x))
			}
		}
		for _, x := range product {
			result.add(x.coef, x.exps)
		}
	}
	return result
}

// expected returns what the text of P8.2 has for a valid term.
func (l interpretation) expected(t api.Term) ([]string, []api.Mono, api.Errno) {
	var names []string
	for _, x := range subterms(t) {
		if x.Var && !slices.Contains(names, x.Name) {
			names = append(names, x.Name)
		}
	}
	slices.Sort(names)
	if len(names) > api.MaxMonos {
		return nil, nil, api.ErrLimit
	}
	for _, x := range subterms(t) {
		m := l.listed(x.Name, len(x.Args))
		if !x.Var && len(m) > 0 && len(m[0].Exps) != len(x.Args) {
			return nil, nil, api.ErrOrder
		}
	}
	for _, x := range subterms(t) {
		if !l.literal(names, x).fits() {
			return nil, nil, api.ErrLimit
		}
	}
	return names, l.literal(names, t).sorted(), api.OK
}

// compared follows the text of P8.5 for terms without errors.
func (l interpretation) compared(s, t api.Term) int {
	both, _, _ := l.expected(f("", s, t))
	p, q := l.literal(both, s), l.literal(both, t)
	result := 1
	for key, x := range q {
		if other, known := p[key]; !known || other.coef.Cmp(x.coef) < 0 {
			return 0
		}
	}
	constant := fmt.Sprint(make([]int, len(both)))
	if _, known := p[constant]; known {
		difference := new(big.Int).Set(p[constant].coef)
		if x, known := q[constant]; known {
			difference.Sub(difference, x.coef)
		}
		result += difference.Sign()
	}
	return result
}

// expectSame reports a polynomial or an error other than in the text of P8.2, and returns the error.
func (l interpretation) expectSame(t *testing.T, x api.Term) api.Errno {
	t.Helper()
	names, list, e := poly.Of(l, x)
	wantNames, wantList, want := l.expected(x)
	if !slices.Equal(names, wantNames) || !alike(list, wantList) || e != want {
		t.Error(l, show(x), names, list, e, "expected", wantNames, wantList, want)
	}
	value, e := poly.Value(l, x)
	constant := uint64(0)
	if len(wantList) > 0 && !slices.ContainsFunc(wantList[0].Exps, func(exp int) bool { return exp > 0 }) {
		constant = wantList[0].Coef
	}
	if value != constant || e != want {
		t.Error(l, show(x), value, e, "expected", constant, want)
	}
	return want
}

// compare returns the result of Compare where there must be no error.
func (l interpretation) compare(t *testing.T, a, b api.Term) int {
	t.Helper()
	n, e := poly.Compare(l, a, b)
	if e != api.OK {
		t.Fatal(l, show(a), show(b), e)
	}
	return n
}

// value returns the value of a term at the values of its variables, evaluated bottom-up, or an error.
func (l interpretation) value(t api.Term, values map[string]uint64) (uint64, api.Errno) {
	if t.Var {
		return values[t.Name], api.OK
	}
	var args []uint64
	for _, x := range t.Args {
		n, e := l.value(x, values)
		if e != api.OK {
			return 0, e
		}
		args = append(args, n)
	}
	m := l.listed(t.Name, len(t.Args))
	if len(m) == 0 {
		return 0, api.OK
	}
	return poly.Eval(m, args)
}

// subterms returns a term and all its proper subterms.
func subterms(t api.Term) []api.Term {
	list := []api.Term{t}
	for _, x := range t.Args {
		list = append(list, subterms(x)...)
	}
	return list
}

// symbolsOf returns the different function symbols of terms.
func symbolsOf(terms ...api.Term) []api.Symbol {
	var list []api.Symbol
	for _, t := range terms {
		for _, x := range subterms(t) {
			symbol := api.Symbol{Name: x.Name, Arity: len(x.Args)}
			if !x.Var && !slices.Contains(list, symbol) {
				list = append(list, symbol)
			}
		}
	}
	return list
}

// dice returns the same numbers below n in every run.
type dice uint32

func (d *dice) below(n int) int {
	*d = *d*1664525 + 1013904223
	return int(*d>>8) % n
}

// term returns a term of at most this depth over f, g, a, b and these variables.
func (d *dice) term(depth int, vars ...string) api.Term {
	n := d.below(10)
	if len(vars) > 0 && (n < 2 || depth == 1 && n < 6) {
		return v(vars[d.below(len(vars))])
	}
	if depth == 1 || n < 3 {
		return f([]string{"a", "b"}[d.below(2)])
	}
	if n < 6 {
		return f("g", d.term(depth-1, vars...))
	}
	return f("f", d.term(depth-1, vars...), d.term(depth-1, vars...))
}

// poly returns a polynomial of at most this degree in each argument, with at most so many monomials and such coefficients.
func (d *dice) poly(name string, arity, degree, count, coef int) api.Poly {
	p := api.Poly{Name: name}
	for range d.below(count + 1) {
		m := api.Mono{Coef: uint64(1 + d.below(coef))}
		for range arity {
			m.Exps = append(m.Exps, d.below(degree+1))
		}
		p.Monos = append(p.Monos, m)
	}
	slices.SortFunc(p.Monos, func(a, b api.Mono) int { return slices.Compare(a.Exps, b.Exps) })
	p.Monos = slices.CompactFunc(p.Monos, func(a, b api.Mono) bool { return slices.Equal(a.Exps, b.Exps) })
	return p
}

// interpretation returns an interpretation of some of a, b, f and g.
func (d *dice) interpretation(degree, count, coef int) interpretation {
	var l interpretation
	for i, name := range []string{"a", "b", "f", "g"} {
		if d.below(5) > 0 {
			l = append(l, d.poly(name, []int{0, 0, 2, 1}[i], degree, count, coef))
		}
	}
	return l
}

// monotone returns an interpretation that is strictly monotone for a, b, f and g.
func (d *dice) monotone() interpretation {
	for {
		l := d.interpretation(2, 4, 3)
		symbols := []api.Symbol{{Name: "a"}, {Name: "b"}, {Name: "f", Arity: 2}, {Name: "g", Arity: 1}}
		if ok, _ := poly.Monotone(l, symbols); ok {
			return l
		}
	}
}

// change returns a term with one of its subterms replaced by one of the others, or by a new one.
func (d *dice) change(t api.Term) api.Term {
	positions, _ := term.Positions(t)
	list := append(subterms(t), d.term(2, "x", "y"))
	u, _ := term.Put(t, positions[d.below(len(positions))], list[d.below(len(list))])
	return u
}

// system returns a system of one to three rules.
func (d *dice) system() []api.Rule {
	var r []api.Rule
	for range 1 + d.below(3) {
		left := d.term(3, "x", "y")
		for left.Var {
			left = d.term(3, "x", "y")
		}
		names, _ := term.Vars(left)
		r = append(r, rule(left, d.term(2, names...)))
	}
	return r
}

// oddTerm is a term that is not valid, with its error.
type oddTerm struct {
	name string
	t    api.Term
	e    api.Errno
}

// oddTerms returns terms that are not valid.
func oddTerms() []oddTerm {
	ring := make([]api.Term, 2)
	ring[0], ring[1] = f("f", ring...), f("a")
	return []oddTerm{
		{"zero value", api.Term{}, api.ErrForm},
		{"marked variable", v("x#"), api.ErrForm},
		{"variable with an argument", api.Term{Name: "x", Var: true, Args: []api.Term{v("y")}}, api.ErrForm},
		{"symbol with a blank", f("f", f("a b")), api.ErrForm},
		{"long name", f(strings.Repeat("a", api.MaxName+1)), api.ErrForm},
		{"nine arguments", f("f", slices.Repeat([]api.Term{f("c")}, api.MaxArity+1)...), api.ErrForm},
		{"too deep", tower(api.MaxDeep, "s", f("a")), api.ErrLimit},
		{"too large", wide(api.MaxSize+1, "w", f("a")), api.ErrLimit},
		{"too large and malformed", f("f", wide(api.MaxSize, "w", f("a")), v("-")), api.ErrForm},
		{"ring", ring[0], api.ErrLimit},
	}
}

// refusedTerms returns valid terms that have no polynomial if g has one argument, q is its square and b is at least 2.
func refusedTerms() []oddTerm {
	long := join("h", vars(api.MaxMonos+1, "x")...)
	large := tower(7, "q", f("b"))
	return []oddTerm{
		{"too many variables", long, api.ErrLimit},
		{"too many variables and an odd symbol", f("g", long, large), api.ErrLimit},
		{"odd symbol", f("g"), api.ErrOrder},
		{"odd symbol after a large value", f("h", large, f("g", v("x"), v("y"))), api.ErrOrder},
		{"large value", f("h", v("x"), large), api.ErrLimit},
	}
}

// oddSystem is a slice of rules that is not a system, with its error.
type oddSystem struct {
	name string
	r    []api.Rule
	e    api.Errno
}

// oddSystems returns slices of rules that are no systems.
func oddSystems() []oddSystem {
	ab := rule(f("a"), f("b"))
	var list []oddSystem
	for _, x := range oddTerms() {
		list = append(list, oddSystem{x.name + " left", []api.Rule{ab, rule(x.t, f("b"))}, x.e})
		list = append(list, oddSystem{x.name + " right", []api.Rule{ab, rule(f("a"), x.t), rule(v("x"), f("a"))}, x.e})
	}
	return append(list,
		oddSystem{"too many rules", slices.Repeat([]api.Rule{rule(f(""), f(""))}, api.MaxRules+1), api.ErrLimit},
		oddSystem{"marked symbol", []api.Rule{ab, rule(v("x"), f("a#"))}, api.ErrName},
		oddSystem{"two arities", []api.Rule{ab, rule(f("a", v("x")), v("x"))}, api.ErrName},
		oddSystem{"variable on the left", []api.Rule{ab, rule(v("x"), f("a"))}, api.ErrVar},
		oddSystem{"extra variable", []api.Rule{ab, rule(f("h", v("x")), f("f", v("x"), v("y")))}, api.ErrVar},
		oddSystem{"variable on the left after terms without polynomials", []api.Rule{rule(f("g"), tower(7, "q", f("b"))), rule(v("x"), f("a"))}, api.ErrVar},
	)
}

// oddPolys is no interpretation, with its error.
type oddPolys struct {
	name string
	l    []api.Poly
	e    api.Errno
}

// oddNames returns strings that are no names of function symbols.
func oddNames() []string {
	return []string{"", "#", "a b", "a##", "a#b", "#a", "é", "f(", "a\x00", "a-", strings.Repeat("f", api.MaxName+1), strings.Repeat("f", api.MaxName) + "#"}
}

// oddLists returns lists of monomials that are no polynomials, as interpretations of one symbol.
func oddLists() []oddPolys {
	var list []oddPolys
	add := func(name string, e api.Errno, m ...api.Mono) {
		list = append(list, oddPolys{name, []api.Poly{{Name: "g", Monos: m}}, e})
	}
	add("too many monomials", api.ErrLimit, univariate(api.MaxMonos+1)...)
	add("too many monomials, all odd", api.ErrLimit, slices.Repeat([]api.Mono{mono(0, 9)}, 5000)...)
	add("different numbers of exponents", api.ErrForm, mono(1, 0), mono(1, 0, 1))
	add("different numbers of exponents, decreasing", api.ErrForm, mono(1, 0, 1), mono(1, 1))
	add("different numbers of exponents, later", api.ErrForm, mono(0, 0), mono(1, 1), mono(1))
	add("no exponents after some", api.ErrForm, mono(1, 0), mono(1))
	add("nine exponents", api.ErrForm, mono(1, make([]int, api.MaxArity+1)...))
	add("nine exponents, odd numbers", api.ErrForm, mono(0, slices.Repeat([]int{-1}, 9)...))
	add("thousands of exponents", api.ErrForm, mono(1, make([]int, 5000)...), mono(1, make([]int, 5000)...))
	add("equal exponents", api.ErrForm, mono(1, 0, 1), mono(1, 0, 1))
	add("equal exponents, different coefficients", api.ErrForm, mono(1, 1), mono(2, 1))
	add("two constants", api.ErrForm, mono(1), mono(2))
	add("decreasing exponents", api.ErrForm, mono(1, 1), mono(1, 0))
	add("decreasing exponents, first different one", api.ErrForm, mono(1, 1, 0), mono(1, 0, 5))
	add("decreasing exponents, last one", api.ErrForm, mono(1, 0, 0), mono(1, 2, 2), mono(1, 2, 1))
	add("decreasing exponents and odd numbers", api.ErrForm, mono(0, 9), mono(0, -1))
	add("exponents order by degree", api.ErrForm, mono(1, 1, 0), mono(1, 0, 2))
	for _, n := range []uint64{0, api.MaxCoef + 1, math.MaxUint64, 1 << 63} {
		add(fmt.Sprint("coefficient ", n), api.ErrArg, mono(n))
		add(fmt.Sprint("coefficient after others ", n), api.ErrArg, mono(1, 0, 0), mono(n, 0, 1))
		add(fmt.Sprint("coefficient before others ", n), api.ErrArg, mono(n, 0), mono(1, 1))
		add(fmt.Sprint("coefficient, then equal exponents ", n), api.ErrForm, mono(n, 0), mono(1, 1), mono(1, 1))
	}
	for _, n := range []int{-1, api.MaxDegree + 1, math.MaxInt, math.MinInt} {
		add(fmt.Sprint("exponent ", n), api.ErrArg, mono(1, n))
		add(fmt.Sprint("exponent among others ", n), api.ErrArg, mono(1, 0, n, 0), mono(1, 1, 0, 0))
		add(fmt.Sprint("exponent of the last argument ", n), api.ErrArg, mono(1, 0, 0, 0), mono(1, 1, 0, n))
		add(fmt.Sprint("exponent, then fewer exponents ", n), api.ErrForm, mono(1, n), mono(1))
	}
	return list
}

// oddInterpretations returns lists that are no interpretations.
func oddInterpretations() []oddPolys {
	a := api.Poly{Name: "a", Monos: []api.Mono{mono(1)}}
	odd := api.Poly{Name: "A", Monos: slices.Repeat([]api.Mono{mono(0, 9)}, api.MaxMonos+1)}
	var list []oddPolys
	add := func(name string, e api.Errno, l ...api.Poly) {
		list = append(list, oddPolys{name, l, e})
	}
	for _, name := range oddNames() {
		add("alone "+name, api.ErrForm, api.Poly{Name: name})
		add("after "+name, api.ErrForm, odd, api.Poly{Name: name})
		add("first "+name, api.ErrForm, api.Poly{Name: name}, api.Poly{Name: "zz"})
	}
	add("equal names", api.ErrForm, a, a)
	add("equal names, different polynomials", api.ErrForm, a, api.Poly{Name: "a"})
	add("decreasing names", api.ErrForm, api.Poly{Name: "b"}, a)
	add("names not in byte order", api.ErrForm, a, api.Poly{Name: "B"})
	add("mark before no mark", api.ErrForm, api.Poly{Name: "a#"}, a)
	add("longer before shorter", api.ErrForm, api.Poly{Name: "aa"}, a)
	add("decreasing names after odd monomials", api.ErrForm, odd, api.Poly{Name: "b"}, a)
	add("too many", api.ErrLimit, symbols(api.MaxSymbols+1)...)
	add("too many, all odd", api.ErrLimit, slices.Repeat([]api.Poly{{Name: "-", Monos: odd.Monos}}, 5000)...)
	for _, x := range oddLists() {
		add(x.name, x.e, x.l...)
		add(x.name+" last", x.e, append([]api.Poly{a}, x.l...)...)
		add(x.name+" first", x.e, append(slices.Clone(x.l), api.Poly{Name: "z"})...)
		for _, y := range oddLists() { // the first symbol decides
			add(x.name+", "+y.name, x.e, x.l[0], api.Poly{Name: "h", Monos: y.l[0].Monos})
		}
	}
	return list
}

// univariate returns so many different monomials with two exponents.
func univariate(n int) []api.Mono {
	var list []api.Mono
	for i := range n {
		list = append(list, mono(1, i/9, i%9))
	}
	return list
}

// symbols returns an interpretation of so many symbols with one argument: f0000 as its argument and f0017 as its argument
// plus 17.
func symbols(n int) []api.Poly {
	var l []api.Poly
	for i := range n {
		p := api.Poly{Name: fmt.Sprintf("f%04d", i)}
		if i > 0 {
			p.Monos = append(p.Monos, mono(uint64(i), 0))
		}
		p.Monos = append(p.Monos, mono(1, 1))
		l = append(l, p)
	}
	return l
}

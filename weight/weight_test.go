package weight_test

import (
	"fmt"
	"math"
	"slices"
	"strings"
	"testing"

	"dwindle/api"
	"dwindle/weight"
)

// P7.1

func TestCheck(t *testing.T) {
	long := strings.Repeat("f", api.MaxName-1)
	for _, l := range [][]api.Rank{
		nil,
		{},
		{{Name: "a"}},
		{{Name: "a", Rank: api.MaxRank}, {Name: "b", Weight: api.MaxRank}, {Name: "c", Rank: api.MaxRank, Weight: api.MaxRank}},
		{{Name: "'"}, {Name: "0"}, {Name: "B"}, {Name: "_"}, {Name: "a"}, {Name: "a#"}, {Name: "a'"}, {Name: "aa"}, {Name: "b#"}},
		{{Name: long + "#"}, {Name: long + "f"}},
		symbols(api.MaxSymbols),
	} {
		for _, unit := range []int{1, 2, 999, api.MaxRank} {
			if e := weight.Check(l, unit); e != api.OK {
				t.Error(l, unit, e)
			}
		}
	}
}

func TestCheckErrors(t *testing.T) {
	for _, x := range oddOrders() {
		if e := weight.Check(x.l, x.unit); e != x.e {
			t.Errorf("%s: error %d, expected %d", x.name, e, x.e)
		}
	}
}

// P7.2

func TestAdmissible(t *testing.T) {
	l := ranks(t, "a 0/1 b 0/2 c 9/3 f 5/0 f# 5/0 g 4/1 h 5/1 i 9/0 m 1000/1000")
	for _, x := range []struct {
		unit    int
		symbols string
		want    bool
	}{
		{1, "", true},
		{1000, "", true},
		// constants
		{1, "a/0 b/0 c/0", true},
		{2, "b/0 c/0", true},
		{2, "b/0 c/0 a/0", false},
		{3, "c/0", true},
		{4, "c/0", false},
		{1, "f/0", false},
		{1, "unlisted/0", false},
		{1000, "m/0", true},
		// the unit does not matter for other symbols
		{1000, "a/1 a/2 a/8", true},
		{1, "f/2 f#/8 i/3 unlisted/2", true},
		// symbols with one argument and weight 0
		{1, "f/1", true},
		{1, "f/1 g/1 g/2 a/0", true},
		{1, "a/0 g/2 f/1", true},
		{1, "f/1 h/2", false},
		{1, "h/2 f/1", false},
		{1, "h/1 f/1", false},
		{1, "f/1 c/0", false},
		{1, "c/0 f/1", false},
		{1, "f/1 f#/1", false},
		{1, "f/1 f#/2", false},
		{1, "i/1 f/1", false},
		{1, "f/1 i/1", false},
		{1, "i/1 f/2 h/1", true},
		{1, "i/1 a/0 c/0", false},
		{1, "i/1 m/8", false},
		{1, "unlisted/1", true},
		{1, "unlisted/1 a/0", false},
		{1, "unlisted/1 other/2", false},
		// a name with several arities, and a symbol that is listed twice
		{1, "f/1 f/2", false},
		{1, "f/0 f/1", false},
		{1, "g/1 g/2 g/0", true},
		{1, "f/2 f/3", true},
		{1, "f/1 a/0 f/1", true},
		{1, "f/1 f/1 h/1", false},
	} {
		if ok, e := weight.Admissible(l, x.unit, arities(t, x.symbols)); ok != x.want || e != api.OK {
			t.Error(x, ok, e)
		}
	}
}

func TestAdmissibleMany(t *testing.T) {
	d := dice(1)
	count := map[bool]int{}
	for range 30000 {
		o := d.order()
		var symbols []api.Symbol
		for range d.below(5) {
			symbols = append(symbols, api.Symbol{Name: []string{"a", "b", "f", "g", "h"}[d.below(5)], Arity: d.below(3)})
		}
		want := o.admits(symbols)
		count[want]++
		if ok, e := weight.Admissible(o.l, o.unit, symbols); ok != want || e != api.OK {
			t.Error(o, symbols, ok, e)
		}
	}
	if count[true] < 5000 || count[false] < 5000 {
		t.Error("too few of a kind", count)
	}
}

// The list of symbols has no limit.
func TestAdmissibleLong(t *testing.T) {
	l := ranks(t, "f 2/0 g 1/0")
	many := slices.Repeat([]api.Symbol{{Name: "f", Arity: 1}, {Name: "g", Arity: 2}}, 100000)
	if ok, e := weight.Admissible(l, 1, many); !ok || e != api.OK {
		t.Error(ok, e)
	}
	if ok, e := weight.Admissible(l, 1, append(many, api.Symbol{Name: "g", Arity: 1})); ok || e != api.OK {
		t.Error(ok, e)
	}
}

func TestAdmissibleErrors(t *testing.T) {
	l := ranks(t, "a 0/1")
	for _, unit := range []int{1, 2} {
		for _, arity := range []int{-1, api.MaxArity + 1, math.MaxInt, math.MinInt} {
			symbols := []api.Symbol{{Name: "a"}, {Name: "g", Arity: arity}, {Name: "a"}}
			if ok, e := weight.Admissible(l, unit, symbols); ok || e != api.ErrArg {
				t.Error(symbols, ok, e)
			}
			for _, name := range oddNames() {
				symbols = []api.Symbol{{Name: "g", Arity: arity}, {Name: name}, {Name: "a", Arity: arity}}
				if ok, e := weight.Admissible(l, unit, symbols); ok || e != api.ErrForm {
					t.Error(symbols, ok, e)
				}
			}
		}
	}
	for _, symbols := range []string{"a/0 g/8", "a#/8", strings.Repeat("a", api.MaxName) + "/8"} {
		if ok, e := weight.Admissible(l, 1, arities(t, symbols)); !ok || e != api.OK {
			t.Error(symbols, ok, e)
		}
	}
}

// P7.3

func TestWeight(t *testing.T) {
	l := ranks(t, "0 7/1 f 2/0 f# 2/10 g 1/100 max 0/1000 x 1/20")
	for _, x := range []struct {
		unit int
		t    api.Term
		want int
	}{
		{1, v("y"), 1},
		{1000, v("y"), 1000},
		{3, v("x"), 3},
		{3, f("x"), 20},
		{3, f("x", v("x")), 23},
		{3, f("0"), 1},
		{3, f("f"), 0},
		{3, f("unlisted", v("y"), f("unlisted")), 3},
		{3, f("f#", f("f", f("f#"), v("y"))), 23},
		{3, f("f", v("y"), v("y"), v("z"), f("0")), 10},
		{2, parse(t, "g(f(x, g(0)), f(x, y))"), 207},
		{2, parse(t, "f(f(f(x)))"), 2},
		{1, wide(api.MaxSize, "max", f("max")), api.MaxSize * api.MaxRank},
		{api.MaxRank, wide(api.MaxSize, "max", v("y")), api.MaxSize * api.MaxRank},
		{1, tower(api.MaxDeep-1, "g", v("z")), 100*(api.MaxDeep-1) + 1},
	} {
		if n, e := weight.Weight(l, x.unit, x.t); n != x.want || e != api.OK {
			t.Error(x.unit, show(x.t), n, e)
		}
	}
	if n, e := weight.Weight(nil, 5, parse(t, "f(x, g(y), 0)")); n != 10 || e != api.OK {
		t.Error(n, e)
	}
	for _, x := range symbols(api.MaxSymbols) {
		if n, e := weight.Weight(symbols(api.MaxSymbols), 1, f(x.Name)); n != x.Weight || e != api.OK {
			t.Error(x, n, e)
		}
	}
}

// The order need not be admissible for the symbols.
func TestWeightMany(t *testing.T) {
	d := dice(2)
	for range 5000 {
		o, a := d.order(), d.term(5, "x", "y")
		if n, e := weight.Weight(o.l, o.unit, a); n != o.weigh(a) || e != api.OK {
			t.Error(o, show(a), n, e)
		}
	}
}

// P7.4

func TestGreater(t *testing.T) {
	o := order{ranks(t, "a 0/1 b 1/1 c 1/1 d 5/2 f 9/0 g 1/2 h 1/1 k 0/3 p 2/0 q 1/0"), 1}
	for _, x := range []struct {
		s, t string
		want bool
	}{
		// no variable may occur more often in t
		{"g(x, x)", "x", true}, {"g(x, y)", "x", true}, {"g(x, y)", "y", true}, {"g(x, x)", "y", false}, {"g(x, y)", "h(z)", false},
		{"g(x, y)", "h(x)", true}, {"g(x, y)", "p(x, x)", false}, {"g(x, x)", "p(x, x)", true}, {"k(x)", "p(x, x)", false}, {"k(p(x, x))", "p(x, x)", true},
		{"d", "x", false}, {"g(d, d)", "x", false}, {"g(p(x, y), z)", "p(p(z, y), x)", true}, {"g(p(x, y), z)", "p(p(y, y), x)", false},
		// a greater weight, whatever the symbols are
		{"d", "a", true}, {"a", "d", false}, {"k(a)", "p(b, b)", true}, {"p(b, b)", "k(a)", false}, {"k(x)", "h(h(x))", true}, {"h(h(x))", "k(x)", false},
		{"g(x, y)", "p(x, y)", true}, {"g(a, a)", "g(a, g(a, a))", false}, {"g(a, g(a, a))", "g(d, d)", true}, {"p(a, d)", "p(d, a)", false}, {"p(d, a)", "p(a, d)", true},
		// equal terms, and variables
		{"a", "a", false}, {"f(x)", "f(x)", false}, {"p(a, h(x))", "p(a, h(x))", false}, {"x", "x", false}, {"x", "y", false}, {"x", "a", false}, {"x", "f(x)", false}, {"a", "x", false},
		// 1: t is a variable
		{"f(x)", "x", true}, {"f(f(f(x)))", "x", true}, {"f(x)", "y", false},
		// 2: a greater symbol
		{"b", "a", true}, {"a", "b", false}, {"f(a)", "a", true}, {"a", "f(a)", false}, {"f(h(x))", "h(f(x))", true}, {"h(f(x))", "f(h(x))", false}, {"p(x, y)", "q(x, y)", true},
		{"p(x, y)", "q(y, x)", true}, {"q(x, y)", "p(x, y)", false}, {"p(x, y)", "q(x, x)", false}, {"f(p(x, q(y, z)))", "p(f(x), q(y, z))", true}, {"d", "h(a)", true}, {"h(a)", "d", false},
		{"p(h(x), y)", "g(x, y)", false}, {"p(h(x), h(y))", "g(x, y)", true},
		// different symbols with equal ranks
		{"b", "c", false}, {"c", "b", false}, {"g(x, y)", "h(h(h(x)))", false}, {"h(h(h(x)))", "h(h(h(y)))", false}, {"q(h(x), a)", "h(q(x, a))", false}, {"h(q(x, a))", "q(h(x), a)", false},
		// 3: the first arguments that differ decide
		{"g(b, a)", "g(a, b)", true}, {"g(a, b)", "g(b, a)", false}, {"g(a, b)", "g(a, a)", true}, {"p(x, y)", "p(y, x)", false}, {"p(h(x), y)", "p(x, h(y))", true}, {"p(x, h(y))", "p(h(x), y)", false},
		{"p(f(x), y)", "p(x, f(y))", true}, {"p(x, f(y))", "p(f(x), y)", false}, {"p(x, f(y))", "p(x, y)", true}, {"p(p(x, y), z)", "p(x, p(y, z))", true}, {"p(x, p(y, z))", "p(p(x, y), z)", false},
		{"p(q(y, x), f(x))", "p(q(x, y), x)", false}, {"p(p(x, y), q(y, x))", "p(q(y, x), p(x, y))", true}, {"p(q(x, y), p(x, y))", "p(p(x, y), q(x, y))", false},
		{"p(b, q(x, y))", "p(c, q(x, y))", false}, {"p(b, p(x, y))", "p(c, q(x, y))", false}, {"p(a, p(x, y))", "p(a, q(x, y))", true}, {"p(h(x), a)", "p(h(a), x)", false},
		{"h(f(x))", "h(x)", true}, {"f(f(x))", "f(x)", true}, {"f(x)", "f(f(x))", false}, {"p(p(h(x), y), h(z))", "p(p(x, h(y)), h(z))", true}, {"p(p(h(x), y), h(z))", "p(p(x, h(h(y))), z)", false},
		{"p(p(x, h(z)), h(y))", "p(p(x, y), h(h(z)))", false},
	} {
		o.expectGreater(t, parse(t, x.s), parse(t, x.t), x.want)
	}
}

// Ranks and weights apply to a name, whatever the number of arguments; variables have the weight unit and no rank; a marked
// symbol is another one.
func TestGreaterNames(t *testing.T) {
	o := order{ranks(t, "a 0/2 f 2/3 f# 1/3 g 9/0 x 3/5"), 2}
	for _, x := range []struct {
		s, t api.Term
		want bool
	}{
		{f("f"), f("a"), true},
		{f("f"), f("f#"), true},
		{f("f#"), f("f"), false},
		{f("f#", v("y")), f("x"), false},
		{f("x"), f("f#", v("y")), false},
		{f("x"), f("f#", f("a")), true},
		{f("f#", f("a")), f("x"), false},
		{f("f", f("a"), f("a")), f("f", f("f#", f("a"))), false},
		{f("f", f("f"), f("f")), f("f", f("f", f("f"))), false},
		{f("f", f("f", f("f"))), f("f", f("f"), f("f")), false},
		{f("f", v("y"), v("z")), f("f", v("y")), true},
		{f("f", v("y")), f("f", v("y"), v("z")), false},
		{v("x"), f("a"), false},
		{v("f"), f("a"), false},
		{f("x"), v("x"), false},
		{f("x", v("x")), v("x"), true},
		{f("x", v("y")), v("x"), false},
		{f("g", v("g")), v("g"), true},
		{f("g", f("x")), f("x"), true},
		{f("a", f("a")), f("a", v("a")), false},
		{f("a", v("a")), f("a", f("a")), false},
	} {
		o.expectGreater(t, x.s, x.t, x.want)
	}
}

func TestGreaterNotAdmissible(t *testing.T) {
	for _, x := range []struct {
		l    string
		unit int
		s, t string
		want api.Errno
	}{
		{"a 0/1 f 1/0", 1, "f(a)", "a", api.OK},
		{"a 1/1 f 1/0", 1, "f(a)", "a", api.ErrOrder},
		{"a 1/1 f 1/0", 1, "f(x)", "x", api.OK},
		{"a 1/1 f 1/0", 1, "f(x)", "a", api.ErrOrder},
		{"a 1/1 f 1/0", 1, "a", "f(x)", api.ErrOrder},
		{"a 0/1 f 1/0", 2, "a", "x", api.ErrOrder},
		{"a 0/1 f 1/0", 2, "x", "f(a)", api.ErrOrder},
		{"a 0/1 f 1/0", 2, "a", "a", api.ErrOrder},
		{"f 1/0", 1, "x", "x", api.OK},
		{"f 1/0", 1, "f(x)", "f(x, y)", api.ErrOrder},
		{"f 1/0", 1, "f(x, y)", "f(f(x))", api.ErrOrder},
		{"f 1/0", 1, "f(x, y)", "f(x, x, x)", api.OK},
		{"f 1/1", 1, "f(x, f)", "f(f(x))", api.OK},
		{"", 1, "g(x)", "g(g(x))", api.OK},
		{"", 1, "g(x)", "h(x)", api.ErrOrder},
		{"", 1, "h(x, y)", "k(x, x, y)", api.OK},
		{"f 2/0 g 1/0", 1, "f(x)", "f(y)", api.OK},
		{"f 2/0 g 1/0", 1, "f(x)", "g(x)", api.ErrOrder},
		{"f 2/0 g 1/0", 1, "f(x)", "g(x, x)", api.OK},
	} {
		o := order{ranks(t, x.l), x.unit}
		s, u := parse(t, x.s), parse(t, x.t)
		ok, e := weight.Greater(o.l, o.unit, s, u)
		if e != x.want || ok && e != api.OK {
			t.Error(x, ok, e)
		}
		o.expectSame(t, s, u)
	}
	// a symbol and its marked form are different
	o := order{ranks(t, "f 1/0 f# 1/0"), 1}
	if ok, e := weight.Greater(o.l, o.unit, f("f", v("x")), f("f#", v("x"))); ok || e != api.ErrOrder {
		t.Error(ok, e)
	}
}

// Both definitions agree on all small terms for all orders.
func TestGreaterAll(t *testing.T) {
	list := flatTerms()
	count := map[bool]int{}
	for _, o := range orders(2, 2) {
		for _, a := range list {
			for _, b := range list {
				count[o.expectSame(t, a, b)]++
			}
		}
	}
	if count[true] < 15000 || count[false] < 15000 {
		t.Error("too few of a kind", count)
	}
}

func TestGreaterMany(t *testing.T) {
	d := dice(3)
	count := map[bool]int{}
	for range 30000 {
		o, a := d.admissible(), d.term(5, "x", "y")
		count[o.expectSame(t, a, d.term(5, "x", "y"))]++
		b := d.change(a)
		count[o.expectSame(t, a, b)]++
		count[o.expectSame(t, b, d.change(b))]++
		d.order().expectSame(t, a, b)
	}
	if count[true] < 20000 || count[false] < 20000 {
		t.Error("too few of a kind", count)
	}
}

// Terms that differ only at the end of a long way, and terms with many symbols.
func TestGreaterLarge(t *testing.T) {
	l := ranks(t, "0 0/1 1 1/1 p 0/0 s 9/0 u 2/0 v 1/0 w 1/1")
	all, marked := f("q"), f("q")
	for i := range api.MaxDeep - 1 {
		all = f(fmt.Sprintf("f%04d", i), all, v("x"))
		marked = f(fmt.Sprintf("f%04d#", i), marked, v("x"))
	}
	deep := tower(api.MaxDeep-1, "s", f("0"))
	for _, x := range []struct {
		name string
		l    []api.Rank
		s, t api.Term
		want bool
	}{
		{"spine and a smaller constant", l, spine(f("1")), spine(f("0")), true},
		{"spine and a greater constant", l, spine(f("0")), spine(f("1")), false},
		{"equal spines", l, spine(f("1")), spine(f("1")), false},
		{"spine and a variable", l, spine(v("x")), spine(v("y")), false},
		{"spine and its argument", l, spine(v("x")), spine(v("x")).Args[2], true},
		{"deep", l, deep, deep.Args[0], true},
		{"deep, the other way round", l, deep.Args[0], deep, false},
		{"deep and a smaller constant", l, tower(api.MaxDeep-1, "s", f("1")), deep, true},
		{"deep and a variable", l, tower(api.MaxDeep-1, "s", v("x")), v("x"), true},
		{"large", l, wide(api.MaxSize, "u", v("x")), wide(api.MaxSize, "v", v("x")), true},
		{"large, the other way round", l, wide(api.MaxSize, "v", v("x")), wide(api.MaxSize, "u", v("x")), false},
		{"large with other variables", l, wide(api.MaxSize, "w", v("x")), wide(api.MaxSize, "v", v("y")), false},
		{"many symbols", append(slices.Clone(symbols(api.MaxDeep)), api.Rank{Name: "q", Weight: 1}), f("q", all.Args[0]), all.Args[0], true},
		{"many symbols of weight 0", []api.Rank{{Name: "q", Weight: 1}}, all.Args[0], marked.Args[0], false},
	} {
		if ok, e := weight.Greater(x.l, 1, x.s, x.t); ok != x.want || e != api.OK {
			t.Error(x.name, ok, e)
		}
	}
}

// P7.5

func TestOrients(t *testing.T) {
	for _, x := range []struct {
		l    string
		unit int
		r    string
		want []bool
	}{
		{"", 1, "", nil},
		{"0 0/1 add 2/0 s 1/1", 1, "add(0, y) -> y add(s(x), y) -> s(add(x, y)) add(x, add(y, z)) -> add(add(x, y), z)", []bool{true, true, false}},
		{"0 0/1 add 0/0 s 1/1", 1, "add(s(x), y) -> s(add(x, y)) add(add(x, y), z) -> add(x, add(y, z)) add(0, y) -> y", []bool{false, true, true}},
		{"a 1/2 b 0/2 f 2/0", 2, "f(a) -> a f(b) -> a a -> b b -> a f(f(a)) -> f(a) a -> a", []bool{true, true, true, false, true, false}},
		{"i 3/0 m 2/0 one 1/1", 1, "i(m(x, y)) -> m(i(y), i(x)) i(i(x)) -> x m(x, i(x)) -> one i(one) -> one m(m(x, y), z) -> m(x, m(y, z)) m(x, m(i(x), y)) -> y", []bool{true, true, true, true, true, true}},
		{"d 1/1", 1, "d(x) -> d(x) d(d(x)) -> d(x) f(x, x) -> d(x) f(x, y) -> f(y, x)", []bool{false, true, false, false}},
		{"f 0/7", 1, "f(x) -> h(x, x) f(f(x)) -> h(f(x), x)", []bool{false, false}},
		{"a 0/1000 b 1000/1000", 1000, "b -> a a -> b", []bool{true, false}},
	} {
		got, e := weight.Orients(ranks(t, x.l), x.unit, system(t, x.r))
		if !slices.Equal(got, x.want) || e != api.OK {
			t.Error(x.l, x.r, got, e)
		}
	}
	for _, x := range []struct {
		left, right api.Term
		want        bool
	}{
		{spine(f("0")), spine(f("0")).Args[2], true},
		{spine(v("x")), spine(f("0")), false},
	} {
		most := slices.Repeat([]api.Rule{rule(x.left, x.right)}, api.MaxRules)
		got, e := weight.Orients(ranks(t, "0 0/1 w 1/1"), 1, most)
		if !slices.Equal(got, slices.Repeat([]bool{x.want}, api.MaxRules)) || e != api.OK {
			t.Error(got, e)
		}
	}
}

// The order must be admissible for the symbols of all rules together.
func TestOrientsNotAdmissible(t *testing.T) {
	l := ranks(t, "a 1/1 b 0/1 f 2/0 g 1/0 h 2/1")
	for _, x := range []struct {
		unit int
		r    string
		want api.Errno
	}{
		{1, "f(x) -> x a -> b", api.OK},
		{2, "f(x) -> x", api.OK},
		{2, "f(x) -> x a -> b", api.ErrOrder},
		{2, "f(x) -> x f(x) -> b", api.ErrOrder},
		{1, "f(x) -> x a -> c", api.ErrOrder},
		{1, "f(x) -> x h(x, y) -> x", api.ErrOrder},
		{1, "f(x) -> x g(x) -> x", api.ErrOrder},
		{1, "f(x) -> x g(x, y) -> x", api.OK},
		{1, "g(x) -> x b -> b", api.OK},
		{1, "g(x) -> x a -> b", api.ErrOrder},
		{1, "a -> b g(x) -> b", api.ErrOrder},
		{1, "h(x, y) -> g(x)", api.ErrOrder},
	} {
		if list, e := weight.Orients(l, x.unit, system(t, x.r)); e != x.want || e != api.OK && len(list) != 0 {
			t.Error(x, list, e)
		}
	}
}

func TestOrientsMany(t *testing.T) {
	d := dice(4)
	count := map[bool]int{}
	for range 3000 {
		o, r := d.admissible(), d.system()
		got, e := weight.Orients(o.l, o.unit, r)
		if len(got) != len(r) || e != api.OK {
			t.Fatal(o, showSystem(r), got, e)
		}
		for i, x := range r {
			count[got[i]]++
			if got[i] != o.above(x.Left, x.Right) {
				t.Error(o, showSystem(r), got)
			}
		}
		o = d.order()
		if _, e := weight.Orients(o.l, o.unit, r); (e == api.OK) != o.admits(symbolsOf(sides(r)...)) {
			t.Error(o, showSystem(r), e)
		}
	}
	if count[true] < 500 || count[false] < 500 {
		t.Error("too few of a kind", count)
	}
}

// Errors

// The errors of an argument come before those of the arguments after it, whatever they are.
func TestErrors(t *testing.T) {
	o, a, r := order{ranks(t, "a 1/1 b 0/1"), 1}, f("a"), system(t, "a -> b")
	admissible := func(what string, o order, symbols []api.Symbol, want api.Errno) {
		if ok, e := weight.Admissible(o.l, o.unit, symbols); ok || e != want {
			t.Errorf("Admissible: %s: %v, error %d, expected %d", what, ok, e, want)
		}
	}
	weigh := func(what string, o order, a api.Term, want api.Errno) {
		if n, e := weight.Weight(o.l, o.unit, a); n != 0 || e != want {
			t.Errorf("Weight: %s: %d, error %d, expected %d", what, n, e, want)
		}
	}
	greater := func(what string, o order, a, b api.Term, want api.Errno) {
		if ok, e := weight.Greater(o.l, o.unit, a, b); ok || e != want {
			t.Errorf("Greater: %s: %v, error %d, expected %d", what, ok, e, want)
		}
	}
	orients := func(what string, o order, r []api.Rule, want api.Errno) {
		if list, e := weight.Orients(o.l, o.unit, r); len(list) != 0 || e != want {
			t.Errorf("Orients: %s: %v, error %d, expected %d", what, list, e, want)
		}
	}
	for _, x := range oddOrders() {
		admissible(x.name, x.order, nil, x.e)
		admissible(x.name+", odd name", x.order, []api.Symbol{{Name: "-"}}, x.e)
		admissible(x.name+", odd arity", x.order, []api.Symbol{{Name: "a", Arity: -1}}, x.e)
		weigh(x.name, x.order, f("g", a), x.e)
		greater(x.name, x.order, f("g", a), a, x.e)
		greater(x.name, x.order, f("c"), a, x.e)
		orients(x.name, x.order, r, x.e)
		orients(x.name, x.order, nil, x.e)
		for _, y := range oddTerms() {
			weigh(x.name+", "+y.name, x.order, y.t, x.e)
			greater(x.name+", "+y.name, x.order, y.t, a, x.e)
			greater(x.name+", "+y.name, x.order, a, y.t, x.e)
		}
		for _, y := range oddSystems() {
			orients(x.name+", "+y.name, x.order, y.r, x.e)
		}
	}
	for _, o := range []order{o, {o.l, 2}} { // the second one is not admissible for a
		for _, x := range oddTerms() {
			weigh(x.name, o, x.t, x.e)
			greater(x.name, o, x.t, a, x.e)
			greater(x.name, o, a, x.t, x.e)
			for _, y := range oddTerms() {
				greater(x.name+", "+y.name, o, x.t, y.t, x.e)
			}
		}
		for _, x := range oddSystems() {
			orients(x.name, o, x.r, x.e)
		}
	}
}

// No function depends on anything but its arguments, or changes them.
func TestAnyArguments(t *testing.T) {
	d := dice(5)
	for range 300 {
		o, a, b, r := d.admissible(), d.term(4, "x", "y"), d.term(4, "x", "y"), d.system()
		if d.below(4) == 0 {
			odd := oddOrders()
			o = odd[d.below(len(odd))].order
		}
		names := symbolsOf(a, b)
		slices.Reverse(names)
		write := func() string { return fmt.Sprint(o, names, show(a), show(b), showSystem(r)) }
		call := func() string {
			e := weight.Check(o.l, o.unit)
			ok, e2 := weight.Admissible(o.l, o.unit, names)
			n, e3 := weight.Weight(o.l, o.unit, a)
			ok2, e4 := weight.Greater(o.l, o.unit, a, b)
			list, e5 := weight.Orients(o.l, o.unit, r)
			s := fmt.Sprint(e, ok, e2, n, e3, ok2, e4, list, e5)
			clear(list)
			return s
		}
		before, first := write(), call()
		if again := call(); again != first {
			t.Error("different results", before, first, again)
		}
		if write() != before {
			t.Error("an argument has changed", before, write())
		}
	}
}

// Example 1 of the chapter.
func TestExample(t *testing.T) {
	l := ranks(t, "a 0/1 f 1/0")
	order{l, 1}.expectGreater(t, parse(t, "f(a)"), parse(t, "a"), true)
	for _, x := range []string{"a 0/1 f 1/0 other 1/0", "a 0/1 f 1/0 other 1/1"} {
		for arity := range api.MaxArity {
			symbols := []api.Symbol{{Name: "a"}, {Name: "f", Arity: 1}, {Name: "other", Arity: arity}}
			if ok, e := weight.Admissible(ranks(t, x), 1, symbols); ok || e != api.OK {
				t.Error(x, symbols, ok, e)
			}
			if ok, e := weight.Admissible(ranks(t, x), 1, symbols[:2]); !ok || e != api.OK {
				t.Error(x, symbols, ok, e)
			}
		}
	}
}

package poly_test

import (
	"fmt"
	"math"
	"slices"
	"strings"
	"testing"

	"dwindle/api"
	"dwindle/poly"
)

// P8.1

func TestCheck(t *testing.T) {
	long := strings.Repeat("f", api.MaxName-1)
	top := slices.Repeat([]int{api.MaxDegree}, api.MaxArity)
	for _, l := range [][]api.Poly{
		nil,
		{},
		{{Name: "a"}},
		{{Name: "a", Monos: []api.Mono{mono(1)}}},
		{{Name: "a", Monos: []api.Mono{mono(api.MaxCoef)}}},
		{{Name: "g", Monos: []api.Mono{mono(api.MaxCoef, 0), mono(1, 3), mono(7, api.MaxDegree)}}},
		{{Name: "f", Monos: []api.Mono{mono(1, 0, 0), mono(1, 0, 8), mono(1, 1, 0), mono(1, 1, 7), mono(1, 2, 0)}}},
		{{Name: "h", Monos: []api.Mono{mono(1, make([]int, api.MaxArity)...), mono(1, top...)}}},
		{{Name: "f", Monos: univariate(api.MaxMonos)}},
		{{Name: "'"}, {Name: "0"}, {Name: "B"}, {Name: "_"}, {Name: "a"}, {Name: "a#"}, {Name: "a'"}, {Name: "aa"}, {Name: "b#"}},
		{{Name: long + "#"}, {Name: long + "f"}},
		symbols(api.MaxSymbols),
	} {
		if e := poly.Check(l); e != api.OK {
			t.Error(l, e)
		}
	}
}

func TestCheckErrors(t *testing.T) {
	for _, x := range oddInterpretations() {
		if e := poly.Check(x.l); e != x.e {
			t.Errorf("%s: error %d, expected %d", x.name, e, x.e)
		}
	}
}

// P8.2

func TestOf(t *testing.T) {
	l := polys(t, "a 3:; add 1:00 1:01 2:10; b 1048576:; f 1:11; g 2:0 3:2; k 5:0; nil; p 1:021 4:100; q 1:2; s 1:0 1:1")
	for _, x := range []struct{ t, vars, want string }{
		{"a", "", "3:"},
		{"b", "", "1048576:"},
		{"x", "x", "1:1"},
		{"y", "y", "1:1"},
		{"s(x)", "x", "1:0 1:1"},
		{"s(s(s(a)))", "", "6:"},
		{"add(s(x), y)", "x y", "3:00 1:01 2:10"},
		{"add(s(y), x)", "x y", "3:00 2:01 1:10"},
		{"s(add(x, y))", "x y", "2:00 1:01 2:10"},
		{"add(x, x)", "x", "1:0 3:1"},
		{"q(s(x))", "x", "1:0 2:1 1:2"},
		{"q(q(q(x)))", "x", "1:8"},
		{"g(x)", "x", "2:0 3:2"},
		{"g(s(x))", "x", "5:0 6:1 3:2"},
		{"f(s(x), s(y))", "x y", "1:00 1:01 1:10 1:11"},
		{"f(s(x), s(x))", "x", "1:0 2:1 1:2"},
		{"f(x, f(z, y))", "x y z", "1:111"},
		{"p(x, y, z)", "x y z", "1:021 4:100"},
		{"p(z, s(x), y)", "x y z", "4:001 1:010 2:110 1:210"},
		{"q(add(x, y))", "x y", "1:00 2:01 1:02 4:10 4:11 4:20"},
		// symbols that are not listed are sums
		{"c", "", ""},
		{"h(x)", "x", "1:1"},
		{"h(x, x, y, c)", "x y", "1:01 2:10"},
		{"h(a, s(x), h(a))", "x", "7:0 1:1"},
		{"s(c)", "", "1:"},
		// arguments that do not matter, and zero polynomials
		{"k(x)", "x", "5:0"},
		{"k(z)", "z", "5:0"},
		{"add(k(x), y)", "x y", "11:00 1:01"},
		{"nil", "", ""},
		{"nil(x)", "x", ""},
		{"nil(x, y, z, x, y, z, x, y)", "x y z", ""},
		{"f(x, z)", "x z", "1:11"},
		{"f(x, nil(y))", "x y", ""},
		{"f(c, x)", "x", ""},
		{"f(s(c), x)", "x", "1:1"},
		{"g(nil(x))", "x", "2:0"},
		{"p(x, c, y)", "x y", "4:10"},
		{"p(c, x, y)", "x y", "1:21"},
		{"h(nil(x), y)", "x y", "1:01"},
	} {
		names, list, e := poly.Of(l, parse(t, x.t))
		if strings.Join(names, " ") != x.vars || !alike(list, monos(t, x.want)) || e != api.OK {
			t.Error(x, names, list, e)
		}
		interpretation(l).expectSame(t, parse(t, x.t))
	}
}

// A variable and a constant of the same name are different, and so are a symbol and its marked form.
func TestOfNames(t *testing.T) {
	l := polys(t, "x 5:; x# 7:; y 1:0 2:1")
	for _, x := range []struct {
		t    api.Term
		vars string
		want string
	}{
		{f("h", v("x"), f("x"), f("x#")), "x", "12:0 1:1"},
		{f("h", v("B"), v("a"), v("_"), f("y", v("a"))), "B _ a", "1:000 3:001 1:010 1:100"},
		{f("y#", v("y")), "y", "1:1"},
		{f("y", v("y")), "y", "1:0 2:1"},
		{f("h", f("x"), f("h", f("x"), f("x"))), "", "15:"},
	} {
		names, list, e := poly.Of(l, x.t)
		if strings.Join(names, " ") != x.vars || !alike(list, monos(t, x.want)) || e != api.OK {
			t.Error(show(x.t), names, list, e)
		}
		interpretation(l).expectSame(t, x.t)
	}
}

func TestValue(t *testing.T) {
	l := polys(t, "a 3:; add 1:00 1:01 2:10; f 1:11; nil; q 1:2; s 1:0 1:1")
	for _, x := range []struct {
		t    string
		want uint64
	}{
		{"x", 0}, {"a", 3}, {"c", 0}, {"nil", 0}, {"nil(a, a)", 0}, {"s(x)", 1}, {"s(s(s(a)))", 6}, {"add(s(s(c)), s(c))", 6}, {"add(a, x)", 7}, {"f(x, a)", 0}, {"f(s(x), a)", 3},
		{"q(q(s(s(y))))", 16}, {"q(add(s(c), s(x)))", 16}, {"h(a, x, a, s(c))", 7}, {"f(a, f(a, a))", 27},
	} {
		if n, e := poly.Value(l, parse(t, x.t)); n != x.want || e != api.OK {
			t.Error(x, n, e)
		}
		interpretation(l).expectSame(t, parse(t, x.t))
	}
}

// All small terms under all small interpretations, and under those that lead to the limits.
func TestOfMany(t *testing.T) {
	d := dice(1)
	count := map[api.Errno]int{}
	for _, x := range []struct{ degree, count, coef, depth, rounds int }{{1, 3, 3, 4, 3000}, {2, 3, 2, 3, 3000}, {3, 2, api.MaxCoef, 4, 3000}, {8, 1, 2, 4, 1000}} {
		for range x.rounds {
			l := d.interpretation(x.degree, x.count, x.coef)
			count[l.expectSame(t, d.term(x.depth, "x", "y", "z"))]++
			if d.below(10) == 0 && len(l) > 0 { // a polynomial of other numbers of arguments
				i := d.below(len(l))
				l[i] = d.poly(l[i].Name, d.below(3), 2, 3, 3)
				count[l.expectSame(t, d.term(3, "x", "y"))]++
			}
		}
	}
	if count[api.OK] < 5000 || count[api.ErrLimit] < 200 || count[api.ErrOrder] < 200 {
		t.Error("too few of a kind", count)
	}
}

// dense returns a term whose polynomial has the coefficient 1 for all powers of x below 2 to the power n.
func dense(n int) api.Term {
	power, t := v("x"), f("s", v("x"))
	for range n - 1 {
		power = f("q", power)
		t = f("m", t, f("s", power))
	}
	return t
}

// box returns a term whose polynomial has the coefficient 1 for all products of different ones of n variables.
func box(n int) api.Term {
	list := vars(n, "x")
	for i := range list {
		list[i] = f("s", list[i])
	}
	return join("m", list...)
}

// largest is an interpretation of the terms of TestLimits: d drops its first argument, and z is 0.
const largest = "big 1048576:; d 1:01; e 1:08; five 5:; four 4:; m 1:11; p 1:00 1:01 1:10; q 1:2; s 1:0 1:1; two 2:; z; zero 1:01 1:81"

func TestLimits(t *testing.T) {
	l := interpretation(polys(t, largest))
	x, y := v("x"), v("y")
	big := join("m", f("big"), f("big"), f("big"))                             // 2 to the power 60
	top := f("m", big, f("four"))                                              // MaxValue
	high := tower(20, "q", x)                                                  // the exponent MaxCoef
	full := box(12)                                                            // MaxTerms monomials
	next := f("h", dense(11), tower(11, "q", x))                               // one more than 2 to the power 11
	last := f("h", dense(11), tower(11, "q", x), f("m", tower(11, "q", x), x)) // two more
	for _, c := range []struct {
		name string
		t    api.Term
		want api.Errno
	}{
		{"largest coefficient", top, api.OK},
		{"product of large factors", f("m", top, f("s", f("c"))), api.OK},
		{"sum of halves", f("h", f("m", big, f("two")), f("m", big, f("two"))), api.OK},
		{"coefficient larger by one", f("s", top), api.ErrLimit},
		{"sum larger by one", f("h", top, f("s", f("c"))), api.ErrLimit},
		{"product with five", f("m", big, f("five")), api.ErrLimit},
		{"sum of two large ones", f("h", top, top), api.ErrLimit},
		{"sum of four large ones", f("h", top, top, top, top), api.ErrLimit},
		{"product 2 to the power 63", f("m", top, f("two")), api.ErrLimit},
		{"product 2 to the power 64", f("m", f("m", big, f("two")), join("m", f("two"), f("four"))), api.ErrLimit},
		{"product 2 to the power 124", f("m", top, top), api.ErrLimit},
		{"coefficient of a product of variables", f("m", f("m", top, x), y), api.OK},
		{"sum at a product of variables", f("h", f("m", f("m", top, x), y), f("m", x, y)), api.ErrLimit},
		{"coefficients of different products", f("h", f("m", top, x), f("m", top, y), top), api.OK},
		{"coefficient of a power", f("q", f("p", f("m", big, x), f("m", big, y))), api.ErrLimit},
		{"largest exponent", high, api.OK},
		{"largest exponents", f("m", high, tower(20, "q", y)), api.OK},
		{"exponent larger by one", f("m", high, x), api.ErrLimit},
		{"exponent larger by one, the other way round", f("m", x, high), api.ErrLimit},
		{"exponent of the other variable", f("m", f("m", x, tower(20, "q", y)), y), api.ErrLimit},
		{"exponent twice as large", f("q", high), api.ErrLimit},
		{"exponent in one of many monomials", f("q", f("p", f("s", y), high)), api.ErrLimit},
		{"most monomials", full, api.OK},
		{"more monomials", f("h", full, f("q", v("x003"))), api.ErrLimit},
		{"no more monomials", f("h", full, f("m", v("x003"), v("x007"))), api.OK},
		{"a constant more", f("s", full), api.OK},
		{"twice as many monomials", box(13), api.ErrLimit},
		{"most monomials of a product", f("m", dense(11), next), api.OK},
		{"more monomials of a product", f("m", dense(11), last), api.ErrLimit},
		{"more monomials of a square", f("q", full), api.ErrLimit},
		{"limits of an argument that does not matter", f("d", f("s", top), x), api.ErrLimit},
		{"exponents of an argument that does not matter", f("d", f("q", high), x), api.ErrLimit},
		{"monomials of an argument that does not matter", f("d", box(13), x), api.ErrLimit},
		{"limits of an argument of zero", f("z", x, f("s", top), y), api.ErrLimit},
		{"limits of a factor of zero", f("m", f("s", top), f("c")), api.ErrLimit},
		{"limits of the last factor of zero", f("m", f("c"), f("s", top)), api.ErrLimit},
		{"large power times zero", f("zero", top, f("c")), api.OK},
		{"large exponent times zero", f("zero", high, f("z")), api.OK},
		{"many monomials times zero", f("zero", full, f("z", x)), api.OK},
		{"large power times one", f("zero", top, f("s", f("c"))), api.ErrLimit},
		{"power of a large argument", f("e", x, f("m", f("big"), x)), api.ErrLimit},
		{"power of zero", f("e", top, f("c")), api.OK},
	} {
		_, list, e := poly.Of(l, c.t)
		value, e2 := poly.Value(l, c.t)
		if e != c.want || e2 != c.want || e != api.OK && (len(list) > 0 || value > 0) {
			t.Error(c.name, len(list), e, value, e2)
		}
	}
	if n, e := poly.Value(l, top); n != api.MaxValue || e != api.OK {
		t.Error(n, e)
	}
	if _, list, e := poly.Of(l, f("m", tower(20, "q", y), high)); !alike(list, []api.Mono{mono(1, api.MaxCoef, api.MaxCoef)}) || e != api.OK {
		t.Error(list, e)
	}
}

// Polynomials with the most monomials are right in all of them.
func TestLargePolynomials(t *testing.T) {
	l := polys(t, largest)
	names, list, e := poly.Of(l, box(12))
	if len(names) != 12 || len(list) != api.MaxTerms || e != api.OK {
		t.Fatal(len(names), len(list), e)
	}
	for i, m := range list {
		want := make([]int, 12)
		for j := range want {
			want[j] = i >> (11 - j) & 1
		}
		if m.Coef != 1 || !slices.Equal(m.Exps, want) {
			t.Fatal(i, m, want)
		}
	}
	_, list, e = poly.Of(l, f("q", dense(11)))
	if len(list) != api.MaxTerms-1 || e != api.OK {
		t.Fatal(len(list), e)
	}
	for i, m := range list {
		if m.Coef != uint64(min(i+1, api.MaxTerms-1-i)) || !slices.Equal(m.Exps, []int{i}) {
			t.Fatal(i, m)
		}
	}
}

// Exponents of more than one and two bytes keep their order.
func TestExponents(t *testing.T) {
	l := polys(t, largest)
	power := func(x string, n int) api.Term { return tower(n, "q", v(x)) }
	sum := f("h", power("x", 7), power("x", 8), power("y", 16), f("m", power("x", 8), power("y", 15)), power("x", 15), power("y", 1), f("m", power("x", 15), power("x", 8)), f("s", power("x", 20)))
	_, list, e := poly.Of(l, sum)
	want := []api.Mono{mono(1, 0, 0), mono(1, 0, 2), mono(1, 0, 1<<16), mono(1, 1<<7, 0), mono(1, 1<<8, 0), mono(1, 1<<8, 1<<15), mono(1, 1<<15, 0), mono(1, 1<<15+1<<8, 0), mono(1, 1<<20, 0)}
	if !alike(list, want) || e != api.OK {
		t.Error(list, e)
	}
	_, list, e = poly.Of(l, f("m", f("m", power("x", 7), power("x", 7)), f("m", power("y", 15), power("y", 15))))
	if !alike(list, []api.Mono{mono(1, 1<<8, 1<<16)}) || e != api.OK {
		t.Error(list, e)
	}
}

func TestVariables(t *testing.T) {
	list := vars(api.MaxMonos, "x")
	slices.Reverse(list)
	names, m, e := poly.Of(polys(t, "q 1:2"), join("h", append(slices.Clone(list), f("q", v("x007")), list[0])...))
	if len(names) != api.MaxMonos || !slices.IsSorted(names) || len(m) != api.MaxMonos+1 || e != api.OK {
		t.Error(names, m, e)
	}
	more := join("h", append(list, v("x064"))...)
	for _, x := range []struct {
		name, l string
		t       api.Term
		want    api.Errno
	}{
		{"too many variables", "", more, api.ErrLimit},
		{"too many variables that do not matter", "h", more, api.ErrLimit},
		{"too many variables, and another number of arguments", "h 1:0", more, api.ErrLimit},
		{"most variables, another number of arguments", "h 1:0", join("h", list...), api.ErrOrder},
		{"most variables, none of which matters", "h", join("h", list...), api.OK},
		{"all variables are one", "", wide(api.MaxSize, "w", v("x")), api.OK},
	} {
		_, _, e := poly.Of(polys(t, x.l), x.t)
		if _, e2 := poly.Value(polys(t, x.l), x.t); e != x.want || e2 != x.want {
			t.Error(x.name, e, e2)
		}
	}
}

func TestArities(t *testing.T) {
	l := polys(t, "a 2:; f 1:01; g 1:2; nil")
	for _, x := range []struct {
		t    string
		want api.Errno
	}{
		{"a", api.OK}, {"a(x)", api.ErrOrder}, {"g", api.ErrOrder}, {"g(x)", api.OK}, {"g(x, y)", api.ErrOrder}, {"f(x)", api.ErrOrder}, {"f(x, y)", api.OK}, {"f(x, y, z)", api.ErrOrder},
		{"f(a, g(f(x, y)))", api.OK}, {"f(a, g(f(x, a(y))))", api.ErrOrder}, {"f(g(x, y), a)", api.ErrOrder}, {"h(h, h(h, h), g)", api.ErrOrder}, {"h(h, h(h, h), g(h))", api.OK},
		{"nil(nil, nil(nil, nil), nil(nil))", api.OK}, {"nil(g)", api.ErrOrder},
		{"h(g(g(g(g(g(g(a)))))), f)", api.ErrOrder}, {"f(g(g(g(g(g(g(a)))))), a)", api.ErrLimit},
	} {
		interpretation(l).expectSame(t, parse(t, x.t))
		if _, _, e := poly.Of(l, parse(t, x.t)); e != x.want {
			t.Error(x, e)
		}
	}
}

// Results share no memory.
func TestMemory(t *testing.T) {
	l := polys(t, "a 3:; add 1:00 1:01 2:10; s 1:0 1:1; k 5:0")
	for _, s := range []string{"add(s(x), add(y, z))", "x", "k(x)", "a"} {
		x := parse(t, s)
		before := fmt.Sprint(poly.Of(l, x))
		names, list, _ := poly.Of(l, x)
		clear(names)
		for i := range list {
			exps := list[i].Exps[:cap(list[i].Exps)]
			for j := range exps {
				exps[j] = i
			}
		}
		for i, m := range list {
			if slices.ContainsFunc(m.Exps, func(exp int) bool { return exp != i }) {
				t.Error("two monomials share memory", s)
			}
		}
		clear(list)
		if after := fmt.Sprint(poly.Of(l, x)); after != before {
			t.Error("a result shares memory", before, after)
		}
	}
}

// P8.3

func TestEval(t *testing.T) {
	top := uint64(api.MaxValue)
	for _, x := range []struct {
		m      []api.Mono
		values []uint64
		want   uint64
	}{
		{nil, nil, 0},
		{nil, []uint64{1, 2, 3}, 0},
		{[]api.Mono{mono(7)}, nil, 7},
		{[]api.Mono{mono(top)}, nil, top},
		{[]api.Mono{mono(0)}, nil, 0},
		{[]api.Mono{mono(1, 0), mono(2, 1), mono(1, 2)}, []uint64{5}, 36},
		{[]api.Mono{mono(3, 2, 1)}, []uint64{5, 7}, 525},
		{[]api.Mono{mono(3, 1, 2)}, []uint64{5, 7}, 735},
		{[]api.Mono{mono(1, 1)}, []uint64{top}, top},
		{[]api.Mono{mono(1, 0)}, []uint64{top}, 1},
		{[]api.Mono{mono(4, 20, 10)}, []uint64{4, 4}, top},
		{[]api.Mono{mono(1, 62)}, []uint64{2}, top},
		{[]api.Mono{mono(top-1, 0), mono(1, 1)}, []uint64{1}, top},
		{slices.Repeat([]api.Mono{mono(1<<50, 0)}, api.MaxTerms), []uint64{9}, top},
		// any order, and equal exponents
		{[]api.Mono{mono(1, 2), mono(2, 1), mono(1, 0), mono(2, 1)}, []uint64{5}, 46},
		// 0 to the power 0 is 1
		{[]api.Mono{mono(5, 0)}, []uint64{0}, 5},
		{[]api.Mono{mono(5, 1)}, []uint64{0}, 0},
		{[]api.Mono{mono(5, 0, 3)}, []uint64{0, 2}, 40},
		{[]api.Mono{mono(5, 3, 0)}, []uint64{0, 2}, 0},
		// a factor 0, whatever the others are
		{[]api.Mono{mono(0, 500)}, []uint64{9}, 0},
		{[]api.Mono{mono(top, 500, 1)}, []uint64{top, 0}, 0},
		{[]api.Mono{mono(top, 1, 500)}, []uint64{0, top}, 0},
		{[]api.Mono{mono(0, math.MaxInt, math.MaxInt)}, []uint64{top, 2}, 0},
		{[]api.Mono{mono(3, math.MaxInt)}, []uint64{0}, 0},
		// large exponents
		{[]api.Mono{mono(3, math.MaxInt)}, []uint64{1}, 3},
		{slices.Repeat([]api.Mono{mono(1, math.MaxInt, math.MaxInt)}, api.MaxTerms), []uint64{1, 1}, api.MaxTerms},
	} {
		if n, e := poly.Eval(x.m, x.values); n != x.want || e != api.OK {
			t.Error(x.m[:min(len(x.m), 5)], x.values, n, e)
		}
	}
}

func TestEvalErrors(t *testing.T) {
	top := uint64(api.MaxValue)
	many := slices.Repeat([]api.Mono{mono(1, 0)}, api.MaxTerms+1)
	for _, x := range []struct {
		name   string
		m      []api.Mono
		values []uint64
		want   api.Errno
	}{
		{"too many monomials", many, []uint64{1}, api.ErrLimit},
		{"too many monomials, all odd", slices.Repeat([]api.Mono{mono(top+1, -1)}, 5000), []uint64{top + 1, 0}, api.ErrLimit},
		{"fewer exponents", []api.Mono{mono(1, 0)}, []uint64{1, 1}, api.ErrForm},
		{"more exponents", []api.Mono{mono(1, 0, 0)}, []uint64{1}, api.ErrForm},
		{"no values", []api.Mono{mono(1), mono(1, 0)}, nil, api.ErrForm},
		{"fewer exponents after a large coefficient", []api.Mono{mono(top+1, -1), mono(1)}, []uint64{top + 1}, api.ErrForm},
		{"negative exponent", []api.Mono{mono(1, 0), mono(1, -1)}, []uint64{1}, api.ErrArg},
		{"negative exponent of zero", []api.Mono{mono(0, math.MinInt)}, []uint64{0}, api.ErrArg},
		{"negative exponent after a large result", []api.Mono{mono(1, 100, 0), mono(1, 0, -1)}, []uint64{2, 2}, api.ErrArg},
		{"large coefficient", []api.Mono{mono(1, 1), mono(top+1, 1)}, []uint64{0}, api.ErrArg},
		{"largest coefficient", []api.Mono{mono(math.MaxUint64, 0)}, []uint64{0}, api.ErrArg},
		{"large value", []api.Mono{mono(1, 0, 0)}, []uint64{0, top + 1}, api.ErrArg},
		{"large value times zero", []api.Mono{mono(0, 1, 1)}, []uint64{top + 1, 0}, api.ErrArg},
		{"large value without monomials", nil, []uint64{0, math.MaxUint64}, api.ErrArg},
		{"large value after a large result", []api.Mono{mono(top, 1, 0)}, []uint64{2, top + 1}, api.ErrArg},
		{"large product", []api.Mono{mono(top, 1)}, []uint64{2}, api.ErrLimit},
		{"product larger by little", []api.Mono{mono(top/2+1, 1)}, []uint64{2}, api.ErrLimit},
		{"product 2 to the power 64", []api.Mono{mono(4, 31)}, []uint64{4}, api.ErrLimit},
		{"product 2 to the power 124", []api.Mono{mono(top, 1)}, []uint64{top}, api.ErrLimit},
		{"product of values", []api.Mono{mono(1, 1, 1)}, []uint64{top, 2}, api.ErrLimit},
		{"largest power", []api.Mono{mono(1, math.MaxInt)}, []uint64{2}, api.ErrLimit},
		{"power 63", []api.Mono{mono(1, 63)}, []uint64{2}, api.ErrLimit},
		{"sum larger by one", []api.Mono{mono(top, 0), mono(1, 1)}, []uint64{1}, api.ErrLimit},
		{"sum of large ones", slices.Repeat([]api.Mono{mono(top, 0)}, 4), []uint64{1}, api.ErrLimit},
		{"sum of many large ones", slices.Repeat([]api.Mono{mono(top, 0)}, api.MaxTerms), []uint64{1}, api.ErrLimit},
		{"sum 2 to the power 64", []api.Mono{mono(top, 0), mono(top, 1)}, []uint64{3}, api.ErrLimit},
		{"sum, then a large product", []api.Mono{mono(1, 0), mono(top, 1), mono(0, 1)}, []uint64{3}, api.ErrLimit},
	} {
		if n, e := poly.Eval(x.m, x.values); n != 0 || e != x.want {
			t.Error(x.name, n, e)
		}
	}
}

// P8.4

func TestMonotone(t *testing.T) {
	l := polys(t, "a 3:; add 1:00 1:01 2:10; b; c# 1:2; dup 1:00 5:01 1:02 1:10; f 1:11; first 1:10; g 2:0; h 1:001 1:010 1:011 1:300; k 1:011 1:101 1:110; last 1:00 1:01; q 1:2; some 1:001 1:011 1:100 1:110; z")
	for _, x := range []struct {
		symbols string
		want    bool
	}{
		{"", true}, {"a/0", true}, {"add/2", true}, {"c#/1", true}, {"dup/2", true}, {"f/2", false}, {"first/2", false}, {"last/2", false}, {"g/1", false}, {"h/3", true}, {"k/3", false}, {"q/1", true},
		{"some/3", false},
		// not listed
		{"other/0", true}, {"other/1", true}, {"other/8", true}, {"c/4", true}, {"q#/5", true},
		// the zero polynomial
		{"b/0", true}, {"z/0", true}, {"z/1", false}, {"z/8", false},
		// several symbols
		{"add/2 q/1 new/3", true}, {"add/2 q/1 f/2", false}, {"f/2 add/2 q/1", false}, {"add/2 add/2 other/2 other/3", true}, {"z/0 b/0 z/0", true}, {"z/0 b/0 z/1", false},
	} {
		if ok, e := poly.Monotone(l, arities(t, x.symbols)); ok != x.want || e != api.OK {
			t.Error(x, ok, e)
		}
	}
	// the list of symbols has no limit
	many := slices.Repeat(arities(t, "add/2 q/1 a/0"), 100000)
	if ok, e := poly.Monotone(l, many); !ok || e != api.OK {
		t.Error(ok, e)
	}
	if ok, e := poly.Monotone(l, append(many, api.Symbol{Name: "g", Arity: 1})); ok || e != api.OK {
		t.Error(ok, e)
	}
}

func TestMonotoneErrors(t *testing.T) {
	l := polys(t, "a 3:; f 1:11; q 1:2; z")
	for _, s := range []string{"a/1", "a/8", "f/0", "f/1", "f/3", "q/0", "q/2", "q/1 f/2 a/0 f/1", "f/3 q/1", "z/4 other/3 q/8", "z/4 a/1"} {
		if ok, e := poly.Monotone(l, arities(t, s)); ok || e != api.ErrOrder {
			t.Error(s, ok, e)
		}
	}
	for _, arity := range []int{-1, api.MaxArity + 1, math.MaxInt, math.MinInt} {
		for _, name := range []string{"a", "f", "z", "other", "q#"} {
			symbols := []api.Symbol{{Name: "q", Arity: 3}, {Name: name, Arity: arity}, {Name: "q"}}
			if ok, e := poly.Monotone(l, symbols); ok || e != api.ErrArg {
				t.Error(symbols, ok, e)
			}
		}
		for _, name := range oddNames() {
			symbols := []api.Symbol{{Name: "g", Arity: arity}, {Name: "q"}, {Name: name}, {Name: "a", Arity: arity}}
			if ok, e := poly.Monotone(l, symbols); ok || e != api.ErrForm {
				t.Error(symbols, ok, e)
			}
		}
	}
}

// A polynomial is strictly monotone in an argument exactly if a small increase of it always increases the value.
func TestMonotoneMany(t *testing.T) {
	d := dice(2)
	count := map[bool]int{}
	for range 5000 {
		p := d.poly("f", 2, 2, 5, 2)
		want := true
		for i := range 16 {
			x, y := uint64(i/4), uint64(i%4)
			n, _ := poly.Eval(p.Monos, []uint64{x, y})
			right, _ := poly.Eval(p.Monos, []uint64{x, y + 1})
			left, _ := poly.Eval(p.Monos, []uint64{x + 1, y})
			want = want && len(p.Monos) > 0 && left > n && right > n
		}
		count[want]++
		if ok, e := poly.Monotone([]api.Poly{p}, []api.Symbol{{Name: "f", Arity: 2}}); ok != want || e != api.OK {
			t.Error(p, ok, e)
		}
	}
	if count[true] < 500 || count[false] < 500 {
		t.Error("too few of a kind", count)
	}
}

// P8.5

func TestCompare(t *testing.T) {
	l := interpretation(polys(t, "a 3:; add 1:00 1:01 2:10; b 3:; f 1:11; k 5:0; nil; q 1:2; s 1:0 1:1"))
	for _, x := range []struct {
		s, t string
		want int
	}{
		{"add(s(x), y)", "s(add(x, y))", 2}, {"s(add(x, y))", "add(s(x), y)", 0}, {"add(x, y)", "add(y, x)", 0}, {"h(x, c)", "x", 1}, {"x", "h(c, x)", 1}, {"h(x, y)", "x", 1}, {"x", "h(x, y)", 0},
		{"x", "x", 1}, {"x", "y", 0}, {"s(x)", "x", 2}, {"x", "s(x)", 0}, {"s(x)", "y", 0}, {"a", "b", 1}, {"s(a)", "b", 2}, {"a", "s(b)", 0}, {"a", "x", 0}, {"x", "a", 0}, {"k(x)", "a", 2},
		{"c", "c", 1}, {"c", "nil(x)", 1}, {"nil(x)", "c", 1}, {"s(c)", "c", 2}, {"c", "s(c)", 0}, {"x", "nil", 1}, {"x", "c", 1}, {"x", "nil(y)", 1}, {"s(x)", "nil(y)", 2}, {"c", "x", 0}, {"nil(x)", "x", 0},
		// every coefficient counts
		{"q(s(x))", "s(x)", 1}, {"q(s(x))", "x", 2}, {"q(x)", "x", 0}, {"q(s(x))", "add(x, x)", 0}, {"f(s(x), s(y))", "h(x, y)", 2}, {"f(s(x), s(y))", "f(x, y)", 2}, {"f(x, y)", "f(y, x)", 1},
		{"f(s(x), s(y))", "h(x, x)", 0}, {"q(h(x, y))", "h(q(x), q(y))", 1}, {"h(q(x), q(y))", "q(h(x, y))", 0}, {"h(q(x), q(y))", "f(x, y)", 0}, {"add(x, y)", "h(x, y)", 2}, {"add(x, y)", "h(x, s(y))", 1},
		{"add(x, y)", "h(x, s(s(y)))", 0}, {"h(q(x), a)", "h(x, a)", 0}, {"h(q(x), s(a))", "h(f(x, x), a)", 2},
		// variables that do not matter, and variables of one side
		{"s(x)", "k(y)", 0}, {"s(k(x))", "k(y)", 2}, {"k(x)", "k(y)", 1}, {"h(x, y, z)", "y", 1}, {"h(x, y, z)", "f(x, y)", 0}, {"f(x, z)", "f(x, y)", 0}, {"f(y, z)", "f(z, y)", 1}, {"f(y, z)", "f(x, y)", 0},
		{"h(y, z)", "h(x, y, z)", 0}, {"h(x, s(y), z)", "h(y, z)", 2}, {"z", "f(x, y)", 0}, {"x", "f(x, nil(y))", 1}, {"y", "f(x, c)", 1},
	} {
		a, b := parse(t, x.s), parse(t, x.t)
		if n := l.compare(t, a, b); n != x.want || n != l.compared(a, b) {
			t.Error(x, n, l.compared(a, b))
		}
	}
}

func TestCompareMany(t *testing.T) {
	d := dice(3)
	count := map[int]int{}
	for range 6000 {
		l := d.interpretation(2, 3, 2)
		a, b := d.term(3, "x", "y", "z"), d.term(2, "w", "x", "y", "z")
		for _, x := range []api.Term{b, d.change(a)} {
			_, _, e := l.expected(a)
			_, _, e2 := l.expected(x)
			if e != api.OK || e2 != api.OK {
				continue
			}
			n := l.compare(t, a, x)
			count[n]++
			if want := l.compared(a, x); n != want {
				t.Error(l, show(a), show(x), n, want)
			}
		}
	}
	if count[0] < 1000 || count[1] < 1000 || count[2] < 500 {
		t.Error("too few of a kind", count)
	}
}

// Both terms may have the most variables, also different ones.
func TestCompareVariables(t *testing.T) {
	l := interpretation(polys(t, "k 5:0; s 1:0 1:1"))
	some, others := vars(api.MaxMonos, "x"), vars(api.MaxMonos, "w")
	back := slices.Clone(some)
	slices.Reverse(back)
	for _, x := range []struct {
		s, t api.Term
		want int
	}{
		{join("h", some...), join("h", back...), 1},
		{f("s", join("h", some...)), join("h", back...), 2},
		{join("h", some...), join("h", others...), 0},
		{join("h", some...), f("k", join("h", others...)), 0},
		{f("s", f("k", join("h", some...))), f("k", join("h", others...)), 2},
		{f("h", f("k", join("h", some[1:]...)), others[63]), others[63], 2},
		{join("h", some...), some[63], 1},
		{some[63], join("h", some...), 0},
		{join("h", some[1:]...), join("h", some[:63]...), 0},
		{box(12), join("h", some[:12]...), 2},
	} {
		if n := l.compare(t, x.s, x.t); n != x.want {
			t.Error(show(x.s), show(x.t), n)
		}
	}
	l = polys(t, largest)
	if n := l.compare(t, box(12), join("h", some[:12]...)); n != 2 {
		t.Error(n)
	}
	if n := l.compare(t, box(12), f("m", v("x003"), v("x011"))); n != 2 {
		t.Error(n)
	}
	if n := l.compare(t, f("m", v("w"), box(11)), f("m", v("x003"), v("x011"))); n != 0 {
		t.Error(n)
	}
}

func TestOrients(t *testing.T) {
	for _, x := range []struct {
		l, r string
		want []int
	}{
		{"", "", nil},
		{"add 1:00 1:01 2:10; s 1:0 1:1", "add(0, y) -> y add(s(x), y) -> s(add(x, y))", []int{2, 2}},
		{"add 1:00 1:01 2:10; s 1:0 1:1", "add(x, add(y, z)) -> add(add(x, y), z) add(add(x, y), z) -> add(x, add(y, z)) s(x) -> s(x)", []int{0, 2, 1}},
		{"", "f(x, y) -> f(y, x) f(x, y) -> x a -> b f(x, x) -> g(x)", []int{1, 1, 1, 1}},
		{"g 1:0 3:1", "f(g(x)) -> g(f(x)) f(g(x)) -> f(x) f(x) -> g(x)", []int{1, 2, 0}},
		{"a 1:; f 1:1 1:2", "f(a) -> a a -> f(a) f(f(x)) -> f(x) f(f(a)) -> f(a)", []int{2, 0, 1, 2}},
		{"d 1:0 3:1; m 1:11; p 2:00 1:01 1:10", "d(p(x, y)) -> p(d(x), d(y)) d(d(x)) -> p(d(x), x) p(x, y) -> d(x) d(x) -> d(x) m(k(x, y), z) -> k(m(x, z), m(y, z))", []int{2, 2, 0, 1, 1}},
	} {
		got, e := poly.Orients(polys(t, x.l), system(t, x.r))
		if !slices.Equal(got, x.want) || e != api.OK {
			t.Error(x.l, x.r, got, e)
		}
	}
	l := polys(t, "s 1:0 1:1; w 1:0 2:1")
	most := slices.Repeat([]api.Rule{rule(tower(61, "w", v("x")), tower(61, "s", v("x"))), rule(tower(100, "s", v("x")), tower(101, "s", v("x")))}, api.MaxRules/2)
	got, e := poly.Orients(l, most)
	if !slices.Equal(got, slices.Repeat([]int{2, 0}, api.MaxRules/2)) || e != api.OK {
		t.Error(got, e)
	}
}

func TestOrientsMany(t *testing.T) {
	d := dice(4)
	count := map[int]int{}
	for range 2000 {
		l, r := d.interpretation(1, 3, 3), d.system()
		got, e := poly.Orients(l, r)
		if e == api.ErrLimit && len(got) == 0 {
			continue
		}
		if len(got) != len(r) || e != api.OK {
			t.Fatal(l, showSystem(r), got, e)
		}
		for i, x := range r {
			count[got[i]]++
			if got[i] != l.compared(x.Left, x.Right) {
				t.Error(l, showSystem(r), got)
			}
		}
	}
	if count[0] < 300 || count[1] < 300 || count[2] < 300 {
		t.Error("too few of a kind", count)
	}
}

// The errors of Of are those of the first side that has one.
func TestOrientsErrors(t *testing.T) {
	l := polys(t, "a 1:; b 3:; g 1:1; q 1:2")
	good := "h(x) -> x"
	for _, x := range []struct {
		r    string
		want api.Errno
	}{
		{"q(q(q(q(q(q(q(b))))))) -> a", api.ErrLimit},
		{"a -> q(q(q(q(q(q(q(b)))))))", api.ErrLimit},
		{"g(x, y) -> x", api.ErrOrder},
		{"h(x, y) -> g(x, y)", api.ErrOrder},
		{"q(q(q(q(q(q(q(b))))))) -> g(b, b)", api.ErrLimit},
		{"g(b, b) -> q(q(q(q(q(q(q(b)))))))", api.ErrOrder},
		{"a -> q(q(q(q(q(q(q(b))))))) g(b, b) -> a", api.ErrLimit},
		{"a -> g(b, b) q(q(q(q(q(q(q(b))))))) -> a", api.ErrOrder},
		{"h(q(q(q(q(q(q(q(b))))))), g(b, b)) -> a", api.ErrOrder},
	} {
		for _, s := range []string{x.r, good + " " + x.r, x.r + " " + good} {
			if strings.Contains(x.r, "h(x, y)") || strings.Contains(x.r, "h(q(") {
				s = strings.ReplaceAll(s, good, "k(x) -> x")
			}
			if list, e := poly.Orients(l, system(t, s)); len(list) != 0 || e != x.want {
				t.Error(s, list, e)
			}
		}
	}
}

// Errors

// The errors of an argument come before those of the arguments after it, whatever they are.
func TestErrors(t *testing.T) {
	l, a, r := polys(t, "a 1:; b 3:; g 1:1; q 1:2"), f("a"), system(t, "a -> b")
	of := func(what string, l []api.Poly, a api.Term, want api.Errno) {
		if names, list, e := poly.Of(l, a); len(names) != 0 || len(list) != 0 || e != want {
			t.Errorf("Of: %s: %v %v, error %d, expected %d", what, names, list, e, want)
		}
		if n, e := poly.Value(l, a); n != 0 || e != want {
			t.Errorf("Value: %s: %d, error %d, expected %d", what, n, e, want)
		}
	}
	monotone := func(what string, l []api.Poly, symbols []api.Symbol, want api.Errno) {
		if ok, e := poly.Monotone(l, symbols); ok || e != want {
			t.Errorf("Monotone: %s: %v, error %d, expected %d", what, ok, e, want)
		}
	}
	compare := func(what string, l []api.Poly, a, b api.Term, want api.Errno) {
		if n, e := poly.Compare(l, a, b); n != 0 || e != want {
			t.Errorf("Compare: %s: %d, error %d, expected %d", what, n, e, want)
		}
	}
	orients := func(what string, l []api.Poly, r []api.Rule, want api.Errno) {
		if list, e := poly.Orients(l, r); len(list) != 0 || e != want {
			t.Errorf("Orients: %s: %v, error %d, expected %d", what, list, e, want)
		}
	}
	terms := append(oddTerms(), refusedTerms()...)
	for _, x := range oddInterpretations() {
		of(x.name, x.l, f("g", a), x.e)
		monotone(x.name, x.l, nil, x.e)
		monotone(x.name+", odd name", x.l, []api.Symbol{{Name: "-"}}, x.e)
		monotone(x.name+", odd arity", x.l, []api.Symbol{{Name: "a", Arity: -1}}, x.e)
		compare(x.name, x.l, f("g", a), a, x.e)
		orients(x.name, x.l, r, x.e)
		orients(x.name, x.l, nil, x.e)
	}
	for _, x := range oddInterpretations()[:80] {
		for _, y := range terms {
			of(x.name+", "+y.name, x.l, y.t, x.e)
			compare(x.name+", "+y.name, x.l, y.t, a, x.e)
			compare(x.name+", "+y.name, x.l, a, y.t, x.e)
		}
		for _, y := range oddSystems() {
			orients(x.name+", "+y.name, x.l, y.r, x.e)
		}
	}
	for _, x := range terms {
		of(x.name, l, x.t, x.e)
		compare(x.name, l, x.t, a, x.e)
		compare(x.name, l, a, x.t, x.e)
		for _, y := range terms {
			compare(x.name+", "+y.name, l, x.t, y.t, x.e)
		}
	}
	for _, x := range oddSystems() {
		orients(x.name, l, x.r, x.e)
	}
}

// No function depends on anything but its arguments, or changes them.
func TestAnyArguments(t *testing.T) {
	d := dice(5)
	for range 500 {
		l, a, b, r := d.interpretation(2, 4, 3), d.term(4, "x", "y"), d.term(4, "x", "y"), d.system()
		if d.below(4) == 0 {
			odd := oddLists()
			l = odd[d.below(len(odd))].l
		}
		names := symbolsOf(a, b)
		slices.Reverse(names)
		values := []uint64{uint64(d.below(5)), uint64(d.below(5))}
		p := d.poly("", 2, 8, 8, 9).Monos
		slices.Reverse(p)
		write := func() string { return fmt.Sprint(l, names, values, p, show(a), show(b), showSystem(r)) }
		call := func() string {
			e := poly.Check(l)
			vars, m, e2 := poly.Of(l, a)
			n, e3 := poly.Value(l, a)
			n2, e4 := poly.Eval(p, values)
			ok, e5 := poly.Monotone(l, names)
			i, e6 := poly.Compare(l, a, b)
			list, e7 := poly.Orients(l, r)
			s := fmt.Sprint(e, vars, m, e2, n, e3, n2, e4, ok, e5, i, e6, list, e7)
			for _, x := range m {
				clear(x.Exps)
			}
			clear(vars)
			clear(list)
			return s
		}
		before, first := write(), call()
		if again := call(); again != first {
			t.Error("different results", before, first, again)
		}
		if write() != before {
			t.Error("an argument has changed", before, write())
		}
	}
}

// Example 1 of the chapter.
func TestExample(t *testing.T) {
	l := interpretation(polys(t, "add 1:00 1:01 2:10; s 1:0 1:1"))
	a, b := parse(t, "add(s(x), y)"), parse(t, "s(add(x, y))")
	_, p, _ := poly.Of(l, a)
	_, q, _ := poly.Of(l, b)
	if !alike(p, monos(t, "3:00 1:01 2:10")) || !alike(q, monos(t, "2:00 1:01 2:10")) || l.compare(t, a, b) != 2 {
		t.Error(p, q)
	}
}

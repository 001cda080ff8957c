package matrix_test

import (
	"slices"
	"testing"

	"dwindle/api"
	"dwindle/derive"
	"dwindle/matrix"
	"dwindle/poly"
	"dwindle/rewrite"
	"dwindle/term"
)

// P9.5

func TestValues(t *testing.T) {
	d := dice(6)
	for i := range 5000 {
		l, x := d.interpretation(1+i%api.MaxDim, 4), d.term(4, "x", "y", "z")
		values := d.values(l.dim, 5, "x", "y", "z")
		names, m, e := matrix.Of(l.dim, l.list, x)
		if e != api.OK || len(m.Mats) != len(names) {
			t.Fatal(l, show(x), names, m, e)
		}
		got, want := vector(m.Vec), l.value(x, values)
		for i, name := range names {
			got = got.plus(square(m.Mats[i]).times(values[name]))
		}
		if !got.covers(want) || !want.covers(got) {
			t.Error(l, show(x), values, got, want)
		}
		value, e := matrix.Value(l.dim, l.list, x)
		if e != api.OK || !got.covers(vector(value)) || len(names) == 0 && !vector(value).covers(got) {
			t.Error(l, show(x), value, got, e)
		}
	}
}

// P9.6

// apply returns an instance of a term.
func apply(t *testing.T, s []api.Bind, x api.Term) api.Term {
	t.Helper()
	y, e := term.Apply(s, x)
	if e != api.OK {
		t.Fatal(show(x), e)
	}
	return y
}

func TestInstances(t *testing.T) {
	d := dice(7)
	count := map[int]int{}
	for i := range 30000 {
		l, a := d.interpretation(1+i%api.MaxDim, 3), d.term(3, "x", "y")
		b := d.change(a)
		n := l.compare(t, a, b)
		if n == 0 {
			continue
		}
		count[n]++
		s := []api.Bind{{Name: "x", Term: d.term(2, "x", "y", "z")}, {Name: "y", Term: d.term(3, "x", "z")}}
		a, b = apply(t, s, a), apply(t, s, b)
		if m := l.compare(t, a, b); m < n {
			t.Error(l, show(a), show(b), n, m)
		}
		values := d.values(l.dim, 4, "x", "y", "z")
		p, q := l.value(a, values), l.value(b, values)
		if !p.covers(q) || n == 2 && p[0][0].Cmp(q[0][0]) <= 0 {
			t.Error(l, show(a), show(b), n, p, q)
		}
	}
	if count[1] < 10000 || count[2] < 1000 {
		t.Error("too few pairs", count)
	}
}

// P9.7

// orients reports whether the interpretation is monotone for the symbols of a system and all rules are strict.
func (l interpretation) orients(t *testing.T, r []api.Rule) bool {
	t.Helper()
	symbols, e := term.Symbols(r)
	ok, e2 := matrix.Monotone(l.dim, l.list, symbols)
	list, e3 := matrix.Orients(l.dim, l.list, r)
	if e != api.OK || e2 != api.OK || e3 != api.OK {
		t.Fatal(l, showSystem(r), e, e2, e3)
	}
	return ok && !slices.ContainsFunc(list, func(n int) bool { return n < 2 })
}

// expectDecrease reports a derivation with a step that does not decrease the first element of the value, or with more
// steps than that of its first term. It returns the number of steps.
func (l interpretation) expectDecrease(t *testing.T, r []api.Rule, c api.Chain) int {
	t.Helper()
	terms, e := derive.Terms(r, c)
	if e != api.OK {
		t.Fatal(showSystem(r), show(c.Start), e)
	}
	values := map[string]table{"x": zeros(l.dim, 1), "y": zeros(l.dim, 1), "z": vector(slices.Repeat([]uint64{7}, l.dim))}
	for i, x := range terms[1:] {
		if n := l.compare(t, terms[i], x); n != 2 {
			t.Error(l, show(terms[i]), show(x), n)
		}
		before, e := matrix.Value(l.dim, l.list, terms[i])
		after, e2 := matrix.Value(l.dim, l.list, x)
		if e != api.OK || e2 != api.OK || before[0] <= after[0] {
			t.Error(l, show(terms[i]), before, e, show(x), after, e2)
		}
		if l.value(terms[i], values)[0][0].Cmp(l.value(x, values)[0][0]) <= 0 {
			t.Error(l, show(terms[i]), show(x))
		}
	}
	if n, e := matrix.Value(l.dim, l.list, c.Start); e != api.OK || uint64(len(c.Steps)) > n[0] {
		t.Error(l, show(c.Start), n, e, len(c.Steps))
	}
	return len(c.Steps)
}

func TestLengths(t *testing.T) {
	d := dice(8)
	count := 0
	for i := range 15000 {
		l, r := d.monotone(1+i%api.MaxDim, 3), d.system()
		if !l.orients(t, r) {
			continue
		}
		for range 3 {
			x := d.term(4, "x", "z")
			for strategy := api.StAny; strategy <= api.StFirst; strategy++ {
				c, _, _, e := rewrite.Normalize(r, x, strategy, 20)
				if e != api.OK {
					t.Fatal(showSystem(r), show(x), e)
				}
				count += l.expectDecrease(t, r, c)
			}
		}
	}
	if count < 2000 {
		t.Error("too few steps", count)
	}
}

func TestLengthsExamples(t *testing.T) {
	for _, x := range []struct {
		l, r, t string
		steps   int
	}{
		{"add 1 2 1; s 1 1", "add(0, y) -> y add(s(x), y) -> s(add(x, y))", "add(s(s(0)), s(0))", 3},
		{"a 1,0; b 0,0; f 0,1 1,1/0,0", "f(f(x)) -> f(x) a -> b", "f(f(f(f(a))))", 4},
		{"f 0,1 1,1/0,0; g 0,0 1,0/0,0", "f(f(x)) -> f(g(f(x)))", "f(f(f(f(f(z)))))", 4},
		{"f 0,0,1 1,1,0/0,0,1/0,0,0; g 0,0,0 1,0,0/0,0,0/0,0,0", "f(f(f(x))) -> f(g(f(f(x))))", "f(f(f(f(f(f(z))))))", 4},
	} {
		l, r := matrices(t, x.l), system(t, x.r)
		if !l.orients(t, r) {
			t.Error("not oriented", x)
		}
		c, _, normal, e := rewrite.Normalize(r, parse(t, x.t), api.StFirst, 200)
		if e != api.OK || !normal || l.expectDecrease(t, r, c) < x.steps {
			t.Error(x, normal, e, len(c.Steps))
		}
	}
}

// P9.8

// polys returns the linear polynomials of an interpretation of dimension 1.
func (l interpretation) polys() []api.Poly {
	var list []api.Poly
	for _, x := range l.list {
		p := api.Poly{Name: x.Name}
		for i := range len(x.Mats) + 1 { // from the last argument on, and the constant first
			m := api.Mono{Coef: x.Vec[0], Exps: make([]int, len(x.Mats))}
			if i > 0 {
				arg := len(x.Mats) - i
				m.Coef = x.Mats[arg][0][0]
				m.Exps[arg] = 1
			}
			if m.Coef > 0 {
				p.Monos = append(p.Monos, m)
			}
		}
		list = append(list, p)
	}
	return list
}

func TestDimension1(t *testing.T) {
	d := dice(9)
	count := map[api.Errno]int{}
	for range 8000 {
		l := d.interpretation(1, []int{2, 3, 5, 1000, api.MaxCoef + 1}[d.below(5)])
		p, a, b, r := l.polys(), d.term(4, "x", "y", "z"), d.term(4, "x", "y", "z"), d.system()
		if d.below(2) == 0 {
			b = d.change(a)
		}
		n, e := matrix.Compare(1, l.list, a, b)
		want, wanted := poly.Compare(p, a, b)
		if n != want || e != wanted {
			t.Error(l, show(a), show(b), n, e, want, wanted)
		}
		count[e]++
		value, e := matrix.Value(1, l.list, a)
		number, wanted := poly.Value(p, a)
		if e != wanted || e == api.OK && (len(value) != 1 || value[0] != number) {
			t.Error(l, show(a), value, e, number, wanted)
		}
		list, e := matrix.Orients(1, l.list, r)
		numbers, wanted := poly.Orients(p, r)
		if !slices.Equal(list, numbers) || e != wanted {
			t.Error(l, showSystem(r), list, e, numbers, wanted)
		}
		ok, e := matrix.Monotone(1, l.list, symbolsOf(a, b))
		strict, wanted := poly.Monotone(p, symbolsOf(a, b))
		if ok != strict || e != wanted {
			t.Error(l, show(a), show(b), ok, e, strict, wanted)
		}
	}
	if count[api.OK] < 5000 || count[api.ErrLimit] < 200 {
		t.Error("too few of a kind", count)
	}
}

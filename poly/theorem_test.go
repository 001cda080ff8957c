package poly_test

import (
	"slices"
	"testing"

	"dwindle/api"
	"dwindle/derive"
	"dwindle/poly"
	"dwindle/rewrite"
	"dwindle/term"
)

// P8.6

func TestValues(t *testing.T) {
	d := dice(6)
	count := 0
	for range 10000 {
		l, x := d.interpretation(2, 4, 3), d.term(4, "x", "y", "z")
		names, m, e := poly.Of(l, x)
		if e != api.OK {
			continue
		}
		values := map[string]uint64{}
		var list []uint64
		for _, name := range names {
			values[name] = uint64(d.below(4))
			list = append(list, values[name])
		}
		n, e := poly.Eval(m, list)
		want, e2 := l.value(x, values)
		if e != api.OK || e2 != api.OK {
			continue
		}
		count++
		if n != want {
			t.Error(l, show(x), values, n, want)
		}
		if n, e := poly.Value(l, x); e != api.OK || len(names) == 0 && n != want || n > want {
			t.Error(l, show(x), values, n, want, e)
		}
	}
	if count < 8000 {
		t.Error("too few values", count)
	}
}

// P8.7

// apply returns an instance of a term.
func apply(t *testing.T, s []api.Bind, x api.Term) api.Term {
	t.Helper()
	y, e := term.Apply(s, x)
	if e != api.OK {
		t.Fatal(show(x), e)
	}
	return y
}

func TestInstances(t *testing.T) {
	d := dice(7)
	count := map[int]int{}
	for range 30000 {
		l, a := d.interpretation(2, 3, 2), d.term(3, "x", "y")
		b := d.change(a)
		n, e := poly.Compare(l, a, b)
		if e != api.OK || n == 0 {
			continue
		}
		s := []api.Bind{{Name: "x", Term: d.term(2, "x", "y", "z")}, {Name: "y", Term: d.term(3, "x", "z")}}
		a, b = apply(t, s, a), apply(t, s, b)
		if m, e := poly.Compare(l, a, b); e == api.OK && m < n {
			t.Error(l, show(a), show(b), n, m)
		}
		values := map[string]uint64{"x": uint64(d.below(3)), "y": uint64(d.below(3)), "z": uint64(d.below(3))}
		p, e := l.value(a, values)
		q, e2 := l.value(b, values)
		if e != api.OK || e2 != api.OK {
			continue
		}
		count[n]++
		if p < q || n == 2 && p == q {
			t.Error(l, show(a), show(b), n, p, q)
		}
	}
	if count[1] < 4000 || count[2] < 1000 {
		t.Error("too few pairs", count)
	}
}

// P8.8

// expectDecrease reports a derivation with a step that does not decrease the value, or with more steps than the value of
// its first term. It returns the number of steps.
func expectDecrease(t *testing.T, l interpretation, r []api.Rule, c api.Chain) int {
	t.Helper()
	terms, e := derive.Terms(r, c)
	if e != api.OK {
		t.Fatal(showSystem(r), show(c.Start), e)
	}
	values := map[string]uint64{"x": 1, "y": 2, "z": 5}
	for i, x := range terms[1:] {
		if n := l.compare(t, terms[i], x); n != 2 {
			t.Error(l, show(terms[i]), show(x), n)
		}
		before, e := poly.Value(l, terms[i])
		after, e2 := poly.Value(l, x)
		if e != api.OK || e2 != api.OK || before <= after {
			t.Error(l, show(terms[i]), before, e, show(x), after, e2)
		}
		before, e = l.value(terms[i], values)
		after, e2 = l.value(x, values)
		if e == api.OK && e2 == api.OK && before <= after {
			t.Error(l, show(terms[i]), before, show(x), after)
		}
	}
	if n, e := poly.Value(l, c.Start); e != api.OK || uint64(len(c.Steps)) > n {
		t.Error(l, show(c.Start), n, e, len(c.Steps))
	}
	return len(c.Steps)
}

func TestLengths(t *testing.T) {
	d := dice(8)
	count := 0
	for range 6000 {
		l, r := d.monotone(), d.system()
		if list, e := poly.Orients(l, r); e != api.OK || slices.ContainsFunc(list, func(n int) bool { return n < 2 }) {
			continue
		}
		for range 5 {
			x := d.term(4, "x", "z")
			if _, e := poly.Value(l, x); e != api.OK {
				continue
			}
			for strategy := api.StAny; strategy <= api.StFirst; strategy++ {
				c, _, _, e := rewrite.Normalize(r, x, strategy, 20)
				if e == api.OK {
					count += expectDecrease(t, l, r, c)
				}
			}
		}
	}
	if count < 2000 {
		t.Error("too few steps", count)
	}
}

func TestLengthsExamples(t *testing.T) {
	for _, x := range []struct {
		l, r, t string
		steps   int
	}{
		{"add 1:00 1:01 2:10; s 1:0 1:1", "add(0, y) -> y add(s(x), y) -> s(add(x, y))", "add(s(s(0)), s(0))", 3},
		{"add 1:00 1:01 2:10; s 1:0 1:1", "add(0, y) -> y add(s(x), y) -> s(add(x, y))", "add(add(s(s(0)), s(s(0))), add(s(s(s(0))), s(s(y))))", 12},
		{"0 1:; add 1:01 2:10; mul 1:00 1:01 1:10 2:11; s 1:0 1:1", "add(0, y) -> y add(s(x), y) -> s(add(x, y)) mul(0, y) -> 0 mul(s(x), y) -> add(y, mul(x, y))", "mul(s(s(0)), add(s(0), s(s(0))))", 13},
		{"f 1:1 1:2; g 1:0 1:1", "f(g(x)) -> g(f(x))", "f(f(g(g(g(x)))))", 6},
	} {
		l, r := interpretation(polys(t, x.l)), system(t, x.r)
		symbols, _ := term.Symbols(r)
		ok, e := poly.Monotone(l, symbols)
		list, e2 := poly.Orients(l, r)
		if !ok || e != api.OK || e2 != api.OK || slices.ContainsFunc(list, func(n int) bool { return n < 2 }) {
			t.Error(x, ok, e, list, e2)
		}
		c, _, normal, e := rewrite.Normalize(r, parse(t, x.t), api.StFirst, 200)
		if e != api.OK || !normal || expectDecrease(t, l, r, c) < x.steps {
			t.Error(x, normal, e, len(c.Steps))
		}
	}
}

package weight_test

import (
	"slices"
	"testing"

	"dwindle/api"
	"dwindle/derive"
	"dwindle/rewrite"
	"dwindle/term"
	"dwindle/weight"
)

// P7.6

func TestNoTermIsGreaterThanItself(t *testing.T) {
	d := dice(6)
	for range 1000 {
		o := d.admissible()
		for range 10 {
			a := d.term(5, "x", "y")
			o.expectGreater(t, a, a, false)
		}
	}
}

func TestTransitive(t *testing.T) {
	d := dice(7)
	count := 0
	for range 40 {
		o := d.admissible()
		var list []api.Term
		for range 60 {
			list = append(list, d.term(4, "x", "a"))
		}
		smaller := make([][]int, len(list)) // for each term the indices of the smaller ones
		for i, a := range list {
			for j, b := range list {
				if o.greater(t, a, b) {
					smaller[i] = append(smaller[i], j)
				}
			}
		}
		for i, a := range list {
			for _, j := range smaller[i] {
				for _, k := range smaller[j] {
					count++
					if !slices.Contains(smaller[i], k) {
						t.Error(o, show(a), show(list[j]), show(list[k]))
					}
				}
			}
		}
	}
	if count < 100000 {
		t.Error("too few triples", count)
	}
}

// P7.7

// apply returns an instance of a term.
func apply(t *testing.T, s []api.Bind, x api.Term) api.Term {
	t.Helper()
	y, e := term.Apply(s, x)
	if e != api.OK {
		t.Fatal(show(x), e)
	}
	return y
}

func TestInstances(t *testing.T) {
	d := dice(8)
	count := 0
	for range 30000 {
		o, a := d.admissible(), d.term(4, "x", "y")
		b := d.change(a)
		if !o.greater(t, a, b) {
			continue
		}
		count++
		s := []api.Bind{{Name: "x", Term: d.term(3, "x", "y", "z")}, {Name: "y", Term: d.term(3, "x", "z")}}
		o.expectGreater(t, apply(t, s, a), apply(t, s, b), true)
	}
	if count < 4000 {
		t.Error("too few pairs", count)
	}
}

func TestContexts(t *testing.T) {
	d := dice(9)
	count := 0
	for range 10000 {
		o, a := d.admissible(), d.term(3, "x", "y")
		b := d.change(a)
		if !o.greater(t, a, b) {
			continue
		}
		context := d.term(4, "x", "y")
		positions, _ := term.Positions(context)
		for _, pos := range positions {
			count++
			c, _ := term.Put(context, pos, a)
			less, _ := term.Put(context, pos, b)
			o.expectGreater(t, c, less, true)
		}
	}
	if count < 4000 {
		t.Error("too few pairs", count)
	}
}

func TestSubterms(t *testing.T) {
	d := dice(10)
	count := 0
	for range 2000 {
		o, a := d.admissible(), d.term(5, "x", "y")
		positions, _ := term.Positions(a)
		for _, pos := range positions[1:] {
			count++
			sub, _ := term.At(a, pos)
			o.expectGreater(t, a, sub, true)
			o.expectGreater(t, sub, a, false)
		}
	}
	if count < 5000 {
		t.Error("too few subterms", count)
	}
}

// The condition of the theorems is needed: without it f(x) and x, with f as small as a, would have instances that are not
// ordered, so Greater must not compare them.
func TestInstancesNotAdmissible(t *testing.T) {
	o := order{ranks(t, "a 1/1 f 1/0"), 1}
	o.expectGreater(t, f("f", v("x")), v("x"), true)
	if ok, e := weight.Greater(o.l, o.unit, f("f", f("a")), f("a")); ok || e != api.ErrOrder {
		t.Error(ok, e)
	}
}

// P7.8

// expectDecrease reports a derivation with a step that does not lead to a smaller term, or that leads to one with a greater
// weight. It returns the number of steps.
func expectDecrease(t *testing.T, o order, r []api.Rule, c api.Chain) int {
	t.Helper()
	terms, e := derive.Terms(r, c)
	if e != api.OK {
		t.Fatal(showSystem(r), show(c.Start), e)
	}
	for i, x := range terms[1:] {
		o.expectGreater(t, terms[i], x, true)
		before, e := weight.Weight(o.l, o.unit, terms[i])
		after, e2 := weight.Weight(o.l, o.unit, x)
		if after > before || e != api.OK || e2 != api.OK {
			t.Error(o, show(terms[i]), before, show(x), after, e, e2)
		}
	}
	return len(c.Steps)
}

func TestRewriting(t *testing.T) {
	d := dice(11)
	count := 0
	for range 3000 {
		o, r := d.admissible(), d.system()
		if list, e := weight.Orients(o.l, o.unit, r); e != api.OK || slices.Contains(list, false) {
			continue
		}
		for range 10 {
			x := d.term(4, "x", "z")
			for strategy := api.StAny; strategy <= api.StFirst; strategy++ {
				c, _, _, e := rewrite.Normalize(r, x, strategy, 20)
				if e == api.OK {
					count += expectDecrease(t, o, r, c)
				}
			}
		}
	}
	if count < 2000 {
		t.Error("too few steps", count)
	}
}

func TestRewritingExamples(t *testing.T) {
	for _, x := range []struct{ l, r, t string }{
		{"0 0/1 add 2/0 s 1/1", "add(0, y) -> y add(s(x), y) -> s(add(x, y))", "add(s(s(x)), add(s(s(0)), s(s(0))))"},
		{"i 3/0 m 2/0 one 1/1", "i(m(x, y)) -> m(i(y), i(x)) i(i(x)) -> x i(one) -> one m(m(x, y), z) -> m(x, m(y, z))", "i(m(m(m(x, i(y)), m(one, z)), i(m(x, y))))"},
		{"g 1/1 h 9/0", "h(g(x)) -> g(h(x))", "h(h(h(g(g(g(y))))))"},
		{"f 1/2 g 0/1", "f(g(x)) -> g(f(x)) f(f(x)) -> g(g(g(x)))", "f(g(g(f(f(f(g(f(f(f(x))))))))))"},
	} {
		o, r := order{ranks(t, x.l), 1}, system(t, x.r)
		if list, e := weight.Orients(o.l, o.unit, r); e != api.OK || slices.Contains(list, false) {
			t.Error(x, list, e)
		}
		c, _, normal, e := rewrite.Normalize(r, parse(t, x.t), api.StFirst, 200)
		if e != api.OK || !normal || expectDecrease(t, o, r, c) < 5 {
			t.Error(x, normal, e, len(c.Steps))
		}
	}
}

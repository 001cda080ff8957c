package path_test

import (
	"slices"
	"testing"

	"dwindle/api"
	"dwindle/derive"
	"dwindle/path"
	"dwindle/rewrite"
	"dwindle/term"
)

// P6.4

func TestNoTermIsGreaterThanItself(t *testing.T) {
	d := dice(4)
	for _, l := range precedences(3) {
		for _, a := range flatTerms() {
			expectGreater(t, l, a, a, false)
		}
		for range 100 {
			a := d.term(5, "x", "y")
			expectGreater(t, l, a, a, false)
		}
	}
}

func TestTransitive(t *testing.T) {
	d := dice(5)
	count := 0
	for _, l := range precedences(3) {
		list := flatTerms()
		for range 20 {
			list = append(list, d.term(4, "x", "a"))
		}
		smaller := make([][]int, len(list)) // for each term the indices of the smaller ones
		for i, a := range list {
			for j, b := range list {
				if greater(t, l, a, b) {
					smaller[i] = append(smaller[i], j)
				}
			}
		}
		for i, a := range list {
			for _, j := range smaller[i] {
				for _, k := range smaller[j] {
					count++
					if !slices.Contains(smaller[i], k) {
						t.Error(l, show(a), show(list[j]), show(list[k]))
					}
				}
			}
		}
	}
	if count < 100000 {
		t.Error("too few triples", count)
	}
}

// P6.5

// apply returns an instance of a term.
func apply(t *testing.T, s []api.Bind, x api.Term) api.Term {
	t.Helper()
	y, e := term.Apply(s, x)
	if e != api.OK {
		t.Fatal(show(x), e)
	}
	return y
}

func TestInstances(t *testing.T) {
	d := dice(6)
	count := 0
	for range 30000 {
		l, a, b := d.ranks(), d.term(4, "x", "y"), d.term(3, "x", "y")
		if !greater(t, l, a, b) {
			continue
		}
		count++
		s := []api.Bind{{Name: "x", Term: d.term(3, "x", "y", "z")}, {Name: "y", Term: d.term(3, "x", "z")}}
		expectGreater(t, l, apply(t, s, a), apply(t, s, b), true)
	}
	if count < 4000 {
		t.Error("too few pairs", count)
	}
}

func TestContexts(t *testing.T) {
	d := dice(7)
	count := 0
	for range 10000 {
		l, a, b := d.ranks(), d.term(3, "x", "y"), d.term(3, "x", "y")
		if !greater(t, l, a, b) {
			continue
		}
		context := d.term(4, "x", "y")
		positions, _ := term.Positions(context)
		for _, pos := range positions {
			count++
			c, _ := term.Put(context, pos, a)
			less, _ := term.Put(context, pos, b)
			expectGreater(t, l, c, less, true)
		}
	}
	if count < 4000 {
		t.Error("too few pairs", count)
	}
}

func TestSubterms(t *testing.T) {
	d := dice(8)
	count := 0
	for range 2000 {
		l, a := d.ranks(), d.term(5, "x", "y")
		positions, _ := term.Positions(a)
		for _, pos := range positions[1:] {
			count++
			sub, _ := term.At(a, pos)
			expectGreater(t, l, a, sub, true)
			expectGreater(t, l, sub, a, false)
		}
	}
	if count < 5000 {
		t.Error("too few subterms", count)
	}
}

// P6.6

// expectDecrease reports a derivation with a step that does not lead to a smaller term. It returns the number of steps.
func expectDecrease(t *testing.T, l []api.Rank, r []api.Rule, c api.Chain) int {
	t.Helper()
	terms, e := derive.Terms(r, c)
	if e != api.OK {
		t.Fatal(showSystem(r), show(c.Start), e)
	}
	for i, x := range terms[1:] {
		expectGreater(t, l, terms[i], x, true)
	}
	return len(c.Steps)
}

func TestRewriting(t *testing.T) {
	d := dice(9)
	count := 0
	for range 3000 {
		l, r := d.ranks(), d.system()
		if list, e := path.Orients(l, r); e != api.OK || slices.Contains(list, false) {
			continue
		}
		for range 10 {
			x := d.term(4, "x", "z")
			for strategy := api.StAny; strategy <= api.StFirst; strategy++ {
				c, _, _, e := rewrite.Normalize(r, x, strategy, 20)
				if e == api.OK {
					count += expectDecrease(t, l, r, c)
				}
			}
		}
	}
	if count < 2000 {
		t.Error("too few steps", count)
	}
}

func TestRewritingExamples(t *testing.T) {
	for _, x := range []struct{ l, r, t string }{
		{"add 2 s 1", "add(0, y) -> y add(s(x), y) -> s(add(x, y))", "add(s(s(x)), add(s(s(0)), s(s(0))))"},
		{"ack 2 s 1", "ack(0, y) -> s(y) ack(s(x), 0) -> ack(x, s(0)) ack(s(x), s(y)) -> ack(x, ack(s(x), y))", "ack(s(s(0)), s(0))"},
		{"add 2 mul 3 s 1", "add(x, 0) -> x add(x, s(y)) -> s(add(x, y)) mul(x, 0) -> 0 mul(x, s(y)) -> add(mul(x, y), x)", "mul(s(s(0)), mul(s(x), s(s(0))))"},
	} {
		l, r := ranks(t, x.l), system(t, x.r)
		if list, e := path.Orients(l, r); e != api.OK || slices.Contains(list, false) {
			t.Error(x, list, e)
		}
		c, _, normal, e := rewrite.Normalize(r, parse(t, x.t), api.StFirst, 200)
		if e != api.OK || !normal || expectDecrease(t, l, r, c) < 5 {
			t.Error(x, normal, e)
		}
	}
}

// P6.7

func TestTotal(t *testing.T) {
	var list []api.Term
	small := []api.Term{f("a"), f("b")}
	for range 2 {
		list = slices.Clone(small)
		for _, x := range small {
			list = append(list, f("g", x))
			for _, y := range small {
				list = append(list, f("f", x, y))
			}
		}
		small = list
	}
	for _, l := range totalPrecedences() {
		for i, a := range list {
			for _, b := range list[:i] {
				if !term.Equal(a, b) && greater(t, l, a, b) == greater(t, l, b, a) {
					t.Error(l, show(a), show(b))
				}
			}
		}
	}
}

// The premises of P6.7 are needed: with equal ranks, several arities or variables some terms are incomparable.
func TestNotTotal(t *testing.T) {
	for _, x := range []struct {
		l    string
		a, b api.Term
	}{
		{"f 1 g 1", f("f", f("a")), f("g", f("a"))},
		{"f 2 g 1", f("f", f("a"), f("a")), f("f", f("a"))},
		{"f 2 g 1", f("f", v("x")), f("g", v("y"))},
		{"f 2 g 1", v("x"), f("a")},
	} {
		expectGreater(t, ranks(t, x.l), x.a, x.b, false)
		expectGreater(t, ranks(t, x.l), x.b, x.a, false)
	}
}

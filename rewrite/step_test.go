package rewrite_test

import (
	"math"
	"testing"

	"dwindle/api"
	"dwindle/rewrite"
	"dwindle/term"
)

// expectStep reports a result of Step that is not the expected one.
func expectStep(t *testing.T, r []api.Rule, x api.Term, s api.Step, want api.Term) {
	t.Helper()
	if y, e := rewrite.Step(r, x, s); e != api.OK || show(y) != show(want) {
		t.Errorf("%.80s: %.80s at %v: %.80s, error %d, expected %.80s", showSystem(r), show(x), s, show(y), e, show(want))
	}
}

// expectNoStep reports an error of Step that is not the expected one, or a result beside it; it does the same for Subst
// unless the error is ErrLimit.
func expectNoStep(t *testing.T, r []api.Rule, x api.Term, s api.Step, want api.Errno) {
	t.Helper()
	if y, e := rewrite.Step(r, x, s); e != want || !term.Equal(y, api.Term{}) {
		t.Errorf("Step: %.80s: %.80s at %.80v: %.80s, error %d, expected %d", showSystem(r), show(x), s, show(y), e, want)
	}
	if b, e := rewrite.Subst(r, x, s); want != api.ErrLimit && (e != want || len(b) > 0) {
		t.Errorf("Subst: %.80s: %.80s at %.80v: %.80s, error %d, expected %d", showSystem(r), show(x), s, showSubst(b), e, want)
	}
}

// P4.2

func TestStep(t *testing.T) {
	for _, x := range []struct {
		r, t  string
		s     api.Step
		want  string
		subst string
	}{
		{"a -> b", "a", step(0), "b", ""},
		{"a -> b", "f(a, a)", step(0, 1), "f(a, b)", ""},
		{"a -> b a -> c", "f(a, a)", step(1, 0), "f(c, a)", ""},
		{"f(x, x) -> x", "f(a, a)", step(0), "a", "x = a"},
		{"f(x, x) -> x", "g(f(y, y))", step(0, 0), "g(y)", "x = ?y"},
		{"f(x, y) -> f(y, x)", "f(y, x)", step(0), "f(x, y)", "x = ?y; y = ?x"},
		{"f(x, y) -> f(y, g(x))", "f(f(y, y), h(x))", step(0), "f(h(x), g(f(y, y)))", "x = f(?y, ?y); y = h(?x)"},
		{"f(x, y) -> f(y, g(x))", "f(f(y, y), h(x))", step(0, 0), "f(f(y, g(y)), h(x))", "x = ?y; y = ?y"},
		{"f(z, y, x) -> a", "f(a, b, c)", step(0), "a", "x = c; y = b; z = a"},
		{"f(z, y, x) -> h(x, x, z)", "f(a, b, c)", step(0), "h(c, c, a)", "x = c; y = b; z = a"},
		{"f(g(x), y) -> y", "h(a, f(g(g(b)), x), c)", step(0, 1), "h(a, x, c)", "x = g(b); y = ?x"},
		{"add(s(x), y) -> s(add(x, y))", "s(add(s(0), add(s(x), y)))", step(0, 0, 1), "s(add(s(0), s(add(x, y))))", "x = ?x; y = ?y"},
		{"a -> a", "g(a)", step(0, 0), "g(a)", ""},
	} {
		r, a := system(t, x.r), parse(t, x.t)
		expectStep(t, r, a, x.s, parse(t, x.want))
		if b, e := rewrite.Subst(r, a, x.s); e != api.OK || showSubst(b) != x.subst {
			t.Error(x, showSubst(b), e)
		}
	}
	expectStep(t, system(t, "a -> b"), f("a"), api.Step{Pos: []int{}}, f("b"))
	expectStep(t, []api.Rule{rule(f("x", v("x")), v("x"))}, f("x#", f("x", f("x"))), step(0, 0), f("x#", f("x")))
}

func TestStepErrors(t *testing.T) {
	r := system(t, "a -> b f(x, x) -> x g(x) -> x")
	x := parse(t, "f(g(a), f(x, b))")
	for _, i := range []int{3, -1, api.MaxRules, math.MaxInt, math.MinInt} {
		expectNoStep(t, r, x, step(i, 0), api.ErrRange)
	}
	for _, pos := range [][]int{{2}, {-1}, {0, 1}, {0, 0, 0}, {1, 0, 0}, {1, 2}, {math.MaxInt}, {math.MinInt}, make([]int, 1000)} {
		for i := range 4 {
			expectNoStep(t, r, x, step(i, pos...), api.ErrRange)
		}
	}
	for _, s := range []api.Step{step(0), step(1), step(2), step(1, 1), step(0, 1, 0), step(2, 1, 1), step(0, 0)} {
		expectNoStep(t, r, x, s, api.ErrStep)
	}
	expectNoStep(t, r, f("f", f("a")), step(1), api.ErrStep)
	expectNoStep(t, r, f("a#"), step(0), api.ErrStep)
	expectNoStep(t, r, v("a"), step(0), api.ErrStep)
	expectNoStep(t, nil, f("a"), step(0), api.ErrRange)
}

func TestStepLimits(t *testing.T) {
	r := system(t, "a -> s(a) d(x) -> e(x, x, c) e(x, y, z) -> c")
	grow := func(n int) (api.Term, api.Step) { return chain(n, f("a")), step(0, make([]int, n)...) }
	x, s := grow(api.MaxDeep - 2)
	expectStep(t, r, x, s, chain(api.MaxDeep-1, f("a")))
	x, s = grow(api.MaxDeep - 1)
	expectNoStep(t, r, x, s, api.ErrLimit)
	half := wide(1999, f("c"))
	expectStep(t, r, f("d", half), step(1), f("e", half, half, f("c")))
	expectNoStep(t, r, f("d", wide(2000, f("c"))), step(1), api.ErrLimit)
	expectNoStep(t, r, f("h", f("d", half)), step(1, 0), api.ErrLimit)
	// The limits concern the result, not what is replaced.
	expectStep(t, r, f("e", half, half, f("c")), step(2), f("c"))
	deep := f("e", chain(api.MaxDeep-2, f("c")), f("c"), f("c"))
	expectStep(t, r, deep, step(2), f("c"))
	expectNoStep(t, system(t, "d(x) -> s(s(x))"), f("d", chain(api.MaxDeep-2, f("c"))), step(0), api.ErrLimit)
	// The instance of a large right side would have millions of nodes.
	huge := []api.Rule{rule(f("d", v("x")), wide(api.MaxSize, v("x")))}
	expectNoStep(t, huge, f("d", wide(api.MaxSize-1, f("c"))), step(0), api.ErrLimit)
	// A substitution is possible also where the step is too large.
	if b, e := rewrite.Subst(huge, f("d", f("c")), step(0)); e != api.OK || showSubst(b) != "x = c" {
		t.Error(showSubst(b), e)
	}
	if b, e := rewrite.Subst(r, f("d", wide(2000, f("c"))), step(1)); e != api.OK || len(b) != 1 {
		t.Error(e)
	}
}

func TestStepAll(t *testing.T) {
	d := dice(4)
	count := 0
	for _, r := range systems(t) {
		for range 60 {
			x := d.term(5, "x", "z")
			positions, _ := term.Positions(x)
			possible := map[string]bool{}
			for _, s := range stepsOf(t, r, x) {
				possible[showSteps([]api.Step{s})] = true
			}
			for _, pos := range positions {
				for i := range r {
					s := step(i, pos...)
					if !possible[showSteps([]api.Step{s})] {
						expectNoStep(t, r, x, s, api.ErrStep)
						continue
					}
					count++
					expectStep(t, r, x, s, after(t, r, x, s))
					expectSubst(t, r, x, s)
				}
			}
		}
	}
	if count < 1000 {
		t.Error("too few steps", count)
	}
}

// expectSubst reports a result of Subst that does not make the left side equal to the subterm, or that does not list
// exactly the variables of the left side.
func expectSubst(t *testing.T, r []api.Rule, x api.Term, s api.Step) {
	t.Helper()
	b, e := rewrite.Subst(r, x, s)
	names, _ := term.Vars(r[s.Rule].Left)
	sub, _ := term.At(x, s.Pos)
	left, _ := term.Apply(b, r[s.Rule].Left)
	if e != api.OK || len(b) != len(names) || show(left) != show(sub) {
		t.Fatal(showSystem(r), show(x), s, showSubst(b), e)
	}
	for i := range b {
		if b[i].Name != names[i] {
			t.Error(showSystem(r), show(x), s, showSubst(b))
		}
	}
}

func TestStepMemory(t *testing.T) {
	r := system(t, "f(x, y) -> h(x, x, g(c))")
	x := parse(t, "k(f(g(a), g(b)), g(c), f(a, b))")
	inR, inX := showSystem(r), show(x)
	y, _ := rewrite.Step(r, x, step(0, 0))
	spoil(y)
	b, _ := rewrite.Subst(r, x, step(0, 0))
	spoil(b[0].Term)
	if showSubst(b) != "x = g(spoilt); y = g(b)" {
		t.Error("two terms of a result share memory", showSubst(b))
	}
	spoil(b[1].Term)
	if showSystem(r) != inR || show(x) != inX {
		t.Error("a result shares memory with an argument", showSystem(r), show(x))
	}
	y, _ = rewrite.Step(r, x, step(0, 0))
	spoil(y.Args[0].Args[0])
	if show(y) != "k(h(g(spoilt), g(a), g(c)), g(c), f(a, b))" {
		t.Error("two parts of a result share memory", show(y))
	}
}

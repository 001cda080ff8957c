package rewrite_test

import (
	"math"
	"testing"

	"dwindle/api"
	"dwindle/rewrite"
	"dwindle/term"
)

// expectNormalize reports a result of Normalize that is not the expected one.
func expectNormalize(t *testing.T, r []api.Rule, x api.Term, strategy, most int, steps string, last api.Term, normal bool) {
	t.Helper()
	c, y, ok, e := rewrite.Normalize(r, x, strategy, most)
	if e != api.OK || ok != normal || show(c.Start) != show(x) || showSteps(c.Steps) != steps || show(y) != show(last) {
		t.Errorf("%.80s: %.80s under %d, at most %d: %.80s from %.80s to %.80s, normal %v, error %d; expected %.80s to %.80s, normal %v",
			showSystem(r), show(x), strategy, most, showSteps(c.Steps), show(c.Start), show(y), ok, e, steps, show(last), normal)
	}
}

// expectNoNormalize reports an error of Normalize that is not the expected one, or a result beside it.
func expectNoNormalize(t *testing.T, r []api.Rule, x api.Term, strategy, most int, want api.Errno) {
	t.Helper()
	c, y, ok, e := rewrite.Normalize(r, x, strategy, most)
	if e != want || ok || len(c.Steps) > 0 || !term.Equal(c.Start, api.Term{}) || !term.Equal(y, api.Term{}) {
		t.Errorf("%.80s: %.80s under %d, at most %d: %.80s to %.80s, normal %v, error %d, expected %d",
			showSystem(r), show(x), strategy, most, showSteps(c.Steps), show(y), ok, e, want)
	}
}

// P4.4

func TestNormalize(t *testing.T) {
	for _, x := range []struct {
		r, t, last string
		steps      [5]string // under the strategies in their order
	}{
		{"a -> b f(x, x) -> x", "f(a, a)", "b", [5]string{"1[] 0[]", "0[0] 0[1] 1[]", "1[] 0[]", "0[0] 0[1] 1[]", "1[] 0[]"}},
		{"a -> b", "f(b, x)", "f(b, x)", [5]string{}},
		{"", "a", "a", [5]string{}},
		{"a -> b a -> c", "g(a)", "g(b)", [5]string{"0[0]", "0[0]", "0[0]", "0[0]", "0[0]"}},
		{"f(x, y) -> x a -> b", "f(a, a)", "b", [5]string{"0[] 1[]", "1[0] 1[1] 0[]", "0[] 1[]", "1[0] 1[1] 0[]", "0[] 1[]"}},
		{"g(x) -> f(x, x) a -> b", "g(a)", "f(b, b)", [5]string{"0[] 1[0] 1[1]", "1[0] 0[]", "0[] 1[0] 1[1]", "1[0] 0[]", "0[] 1[0] 1[1]"}},
	} {
		for i, strategy := range strategies() {
			expectNormalize(t, system(t, x.r), parse(t, x.t), strategy, 10, x.steps[i], parse(t, x.last), true)
		}
	}
}

func TestNormalizeMost(t *testing.T) {
	r := system(t, "a -> b f(x, x) -> x")
	x := parse(t, "f(a, a)")
	for most, y := range []struct {
		steps, last string
		normal      bool
	}{
		{"", "f(a, a)", false}, {"0[0]", "f(b, a)", false}, {"0[0] 0[1]", "f(b, b)", false}, {"0[0] 0[1] 1[]", "b", true}, {"0[0] 0[1] 1[]", "b", true},
	} {
		expectNormalize(t, r, x, api.StLeft, most, y.steps, parse(t, y.last), y.normal)
	}
	expectNormalize(t, r, f("b"), api.StAny, 0, "", f("b"), true)
	expectNormalize(t, r, f("b"), api.StAny, api.MaxSteps, "", f("b"), true)
	expectNormalize(t, system(t, "a -> b b -> a"), f("a"), api.StInner, 3, "0[] 1[] 0[]", f("b"), false)
}

func TestNormalizeLong(t *testing.T) {
	r := system(t, "a -> b b -> a")
	for _, strategy := range strategies() {
		c, y, ok, e := rewrite.Normalize(r, f("a"), strategy, api.MaxSteps)
		if len(c.Steps) != api.MaxSteps || show(y) != "a" || ok || e != api.OK {
			t.Error(strategy, len(c.Steps), show(y), ok, e)
		}
	}
	large := wide(api.MaxSize, f("a"))
	c, y, ok, e := rewrite.Normalize(system(t, "a -> b"), large, api.StFirst, api.MaxSteps)
	if want := wide(api.MaxSize, f("b")); len(c.Steps) < 3000 || show(y) != show(want) || show(c.Start) != show(large) || !ok || e != api.OK {
		t.Error(len(c.Steps), ok, e)
	}
}

func TestNormalizeErrors(t *testing.T) {
	r := system(t, "a -> b")
	for _, strategy := range notStrategies() {
		expectNoNormalize(t, r, f("a"), strategy, 1, api.ErrArg)
		expectNoNormalize(t, r, f("-"), strategy, 1, api.ErrForm)
	}
	for _, strategy := range strategies() {
		for _, most := range []int{-1, api.MaxSteps + 1, math.MaxInt, math.MinInt} {
			expectNoNormalize(t, r, f("b"), strategy, most, api.ErrArg)
			expectNoNormalize(t, r, f("-"), strategy, most, api.ErrForm)
			expectNoNormalize(t, system(t, "a -> s(a)"), chain(api.MaxDeep-1, f("a")), strategy, most, api.ErrArg)
		}
	}
}

func TestNormalizeLimits(t *testing.T) {
	grow := system(t, "a -> s(a)")
	for _, strategy := range strategies() {
		c, y, ok, e := rewrite.Normalize(grow, f("a"), strategy, api.MaxDeep-1)
		if len(c.Steps) != api.MaxDeep-1 || show(y) != show(chain(api.MaxDeep-1, f("a"))) || ok || e != api.OK {
			t.Error(strategy, len(c.Steps), ok, e)
		}
		expectNoNormalize(t, grow, f("a"), strategy, api.MaxDeep, api.ErrLimit)
	}
	double := system(t, "g(x) -> f(x, x) a -> b")
	x := chain(1, f("g", wide(1998, f("c"))))
	expectNormalize(t, double, x, api.StAny, 1, "0[0]", chain(1, f("f", wide(1998, f("c")), wide(1998, f("c")))), true)
	for _, strategy := range strategies() {
		expectNoNormalize(t, double, f("g", wide(2000, f("c"))), strategy, 1, api.ErrLimit)
		expectNormalize(t, double, f("g", wide(2000, f("c"))), strategy, 0, "", f("g", wide(2000, f("c"))), false)
	}
}

// Every step is the first one that Redexes returns, and there is another step unless the term is a normal form.
func TestNormalizeAll(t *testing.T) {
	d := dice(5)
	count := 0
	for _, r := range systems(t) {
		for range 25 {
			x := d.term(4, "x", "z")
			for _, strategy := range strategies() {
				var steps []api.Step
				last := x
				next := stepsUnder(t, r, last, strategy)
				for most := range 6 {
					expectNormalize(t, r, x, strategy, most, showSteps(steps), last, len(next) == 0)
					if len(next) == 0 {
						count++
						break
					}
					steps = append(steps, next[0])
					last = after(t, r, last, next[0])
					next = stepsUnder(t, r, last, strategy)
				}
			}
		}
	}
	if count < 500 {
		t.Error("too few normal forms", count)
	}
}

func TestNormalizeMemory(t *testing.T) {
	r := system(t, "a -> g(b) f(x, x) -> h(x, g(b))")
	for _, most := range []int{0, 2, 9} {
		x := parse(t, "k(f(a, a), g(c), f(g(c), g(c)))")
		inR, inX := showSystem(r), show(x)
		c, y, _, _ := rewrite.Normalize(r, x, api.StLeft, most)
		steps, last := showSteps(c.Steps), show(y)
		spoil(c.Start)
		if show(y) != last || show(x) != inX {
			t.Error("the first term shares memory", show(y), show(x))
		}
		spoil(y)
		for i := range c.Steps {
			kept := showSteps(c.Steps[i+1:])
			spoilPos(c.Steps[i].Pos)
			if showSteps(c.Steps[i+1:]) != kept {
				t.Error("two positions share memory", kept)
			}
		}
		if showSystem(r) != inR || show(x) != inX {
			t.Error("a result shares memory with an argument", showSystem(r), show(x))
		}
		c, y, _, _ = rewrite.Normalize(r, x, api.StLeft, most)
		spoil(x)
		if show(c.Start) != inX || show(y) != last || showSteps(c.Steps) != steps {
			t.Error("a result shares memory with the term", show(c.Start), show(y))
		}
	}
	_, y, _, _ := rewrite.Normalize(system(t, "f(x) -> h(x, x)"), f("f", f("g", f("c"))), api.StAny, 1)
	spoil(y.Args[0])
	if show(y) != "h(g(spoilt), g(c))" {
		t.Error("two parts of a result share memory", show(y))
	}
}

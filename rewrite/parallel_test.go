package rewrite_test

import (
	"math"
	"slices"
	"testing"

	"dwindle/api"
	"dwindle/rewrite"
	"dwindle/term"
)

// expectParallel reports a result of Parallel that is not the expected one.
func expectParallel(t *testing.T, r []api.Rule, x api.Term, l []api.Step, want api.Term) {
	t.Helper()
	if y, e := rewrite.Parallel(r, x, l); e != api.OK || show(y) != show(want) {
		t.Errorf("%.80s: %.80s at %.80s: %.80s, error %d, expected %.80s", showSystem(r), show(x), showSteps(l), show(y), e, show(want))
	}
}

// expectNoParallel reports an error of Parallel that is not the expected one, or a result beside it.
func expectNoParallel(t *testing.T, r []api.Rule, x api.Term, l []api.Step, want api.Errno) {
	t.Helper()
	if y, e := rewrite.Parallel(r, x, l); e != want || !term.Equal(y, api.Term{}) {
		t.Errorf("%.80s: %.80s at %.80s: %.80s, error %d, expected %d", showSystem(r), show(x), showSteps(l), show(y), e, want)
	}
}

// P4.5

func TestParallel(t *testing.T) {
	r := system(t, "a -> b f(x, x) -> x a -> g(a) g(x) -> h(x, x, x)")
	for _, x := range []struct {
		t    string
		l    []api.Step
		want string
	}{
		{"f(a, a)", nil, "f(a, a)"},
		{"x", []api.Step{}, "x"},
		{"a", []api.Step{step(0)}, "b"},
		{"f(a, a)", []api.Step{step(1)}, "a"},
		{"f(a, a)", []api.Step{step(0, 0), step(0, 1)}, "f(b, b)"},
		{"f(a, a)", []api.Step{step(2, 1), step(0, 0)}, "f(b, g(a))"},
		{"f(f(x, x), g(a))", []api.Step{step(1, 0), step(3, 1)}, "f(x, h(a, a, a))"},
		{"f(f(x, x), g(a))", []api.Step{step(0, 1, 0), step(1, 0)}, "f(x, g(b))"},
		{"h(g(a), h(a, f(a, a), a), a)", []api.Step{step(2, 1, 2), step(3, 0), step(1, 1, 1), step(0, 1, 0)}, "h(h(a, a, a), h(b, a, g(a)), a)"},
		{"h(f(a, a), f(a, a), a)", []api.Step{step(0, 0, 1), step(0, 2), step(0, 1, 0)}, "h(f(a, b), f(b, a), b)"},
	} {
		expectParallel(t, r, parse(t, x.t), x.l, parse(t, x.want))
	}
	long := f("h", f("h", f("a")), f("a"), f("h", f("a"), f("a")))
	expectParallel(t, r, long, []api.Step{step(0, 2, 1), step(0, 1), step(0, 0, 0)}, f("h", f("h", f("b")), f("b"), f("h", f("a"), f("b"))))
}

func TestParallelErrors(t *testing.T) {
	r := system(t, "a -> b g(x) -> x a -> a f(x, x) -> x")
	x := parse(t, "f(f(a, g(a)), f(a, g(a)))")
	for _, i := range []int{4, -1, math.MaxInt, math.MinInt} {
		expectNoParallel(t, r, x, []api.Step{step(0, 0, 0), step(i, 1, 0)}, api.ErrRange)
	}
	for _, pos := range [][]int{{2}, {-1}, {0, 2}, {0, 0, 0}, {math.MaxInt}, {math.MinInt}} {
		expectNoParallel(t, r, x, []api.Step{step(0, 0, 0), step(0, pos...)}, api.ErrRange)
	}
	for _, l := range [][]api.Step{
		{step(0)}, {step(0, 0, 0), step(0, 1)}, {step(3, 0)}, {step(1, 0, 0), step(0, 0, 0)}, // does not apply
		{step(0, 0, 0), step(0, 0, 0)}, {step(0, 0, 0), step(2, 0, 0)}, {step(3), step(3)}, // equal positions
		{step(3), step(0, 0, 0)}, {step(0, 1, 0), step(3)}, {step(1, 0, 1), step(0, 0, 1, 0)}, // below
		{step(0, 1, 1, 0), step(0, 0, 0), step(1, 0, 1), step(1, 1, 1)},
		{step(0, 0, 1, 0), step(0, 1, 0), step(0, 0, 0), step(3)},
	} {
		expectNoParallel(t, r, x, l, api.ErrStep)
	}
}

// An earlier step decides; that positions are not parallel is found after that, and the limits last.
func TestParallelOrder(t *testing.T) {
	r := system(t, "a -> s(a) s(x) -> a")
	x := f("f", f("a"), f("s", f("a")))
	expectNoParallel(t, r, x, []api.Step{step(1, 0), step(9, 0)}, api.ErrStep)
	expectNoParallel(t, r, x, []api.Step{step(9, 0), step(1, 0)}, api.ErrRange)
	expectNoParallel(t, r, x, []api.Step{step(1, 0), step(0, 7)}, api.ErrStep)
	expectNoParallel(t, r, x, []api.Step{step(0, 7), step(1, 0)}, api.ErrRange)
	expectNoParallel(t, r, x, []api.Step{step(1, 1), step(0, 1, 0), step(9)}, api.ErrRange)
	expectNoParallel(t, r, x, []api.Step{step(0, 0), step(0, 0), step(0, 5)}, api.ErrRange)
	deep := chain(api.MaxDeep-1, f("a"))
	last := make([]int, api.MaxDeep-1)
	expectNoParallel(t, r, deep, []api.Step{step(0, last...)}, api.ErrLimit)
	expectNoParallel(t, r, deep, []api.Step{step(0, last...), step(1)}, api.ErrStep)
	expectNoParallel(t, r, deep, []api.Step{step(0, last...), step(2)}, api.ErrRange)
}

func TestParallelMost(t *testing.T) {
	r := system(t, "a -> b")
	expectNoParallel(t, r, f("a"), slices.Repeat([]api.Step{step(9)}, api.MaxSteps+1), api.ErrLimit)
	expectNoParallel(t, r, f("a"), slices.Repeat([]api.Step{step(9)}, api.MaxSteps), api.ErrRange)
	expectNoParallel(t, r, f("a"), slices.Repeat([]api.Step{step(0)}, api.MaxSteps), api.ErrStep)
	expectNoParallel(t, r, f("-"), slices.Repeat([]api.Step{step(9)}, api.MaxSteps+1), api.ErrForm)
	x := wide(api.MaxSize, f("a"))
	l := stepsOf(t, r, x)
	slices.Reverse(l)
	expectParallel(t, r, x, l, wide(api.MaxSize, f("b")))
	slices.Reverse(l)
	expectParallel(t, r, x, l[1:], after(t, []api.Rule{rule(f("b"), f("a"))}, wide(api.MaxSize, f("b")), l[0]))
}

// The limits concern the result, not the terms that single steps lead to.
func TestParallelLimits(t *testing.T) {
	r := system(t, "d(x) -> k(x, x) e(x) -> c a -> s(a)")
	part := wide(1498, f("c"))
	x := f("f", f("d", part), f("e", part))
	want := f("f", f("k", part, part), f("c"))
	expectParallel(t, r, x, []api.Step{step(0, 0), step(1, 1)}, want)
	expectParallel(t, r, x, []api.Step{step(1, 1), step(0, 0)}, want)
	expectNoParallel(t, r, x, []api.Step{step(0, 0)}, api.ErrLimit)
	both := f("f", f("d", wide(999, f("c"))), f("d", wide(999, f("c"))))
	if y, e := rewrite.Parallel(r, both, []api.Step{step(0, 0), step(0, 1)}); term.Size(y) != 3999 || e != api.OK {
		t.Error(term.Size(y), e)
	}
	both = f("f", f("d", wide(999, f("c"))), f("d", wide(1000, f("c"))))
	expectNoParallel(t, r, both, []api.Step{step(0, 0), step(0, 1)}, api.ErrLimit)
	full := f("f", f("d", wide(999, f("c"))), f("d", wide(999, f("c"))), f("a"))
	expectNoParallel(t, r, full, []api.Step{step(0, 0), step(0, 1), step(2, 2)}, api.ErrLimit)
	// Thousands of steps with large results.
	huge := []api.Rule{rule(f("a"), wide(api.MaxSize, f("c")))}
	many := wide(api.MaxSize, f("a"))
	expectNoParallel(t, huge, many, stepsOf(t, huge, many), api.ErrLimit)
	expectParallel(t, huge, f("a"), []api.Step{step(0)}, wide(api.MaxSize, f("c")))
}

func TestParallelMemory(t *testing.T) {
	r := system(t, "g(x) -> h(x, x, k(c))")
	x := parse(t, "f(g(k(a)), f(g(k(b)), k(d)))")
	l := []api.Step{step(0, 1, 0), step(0, 0)}
	inR, inX, inL := showSystem(r), show(x), showSteps(l)
	for _, steps := range [][]api.Step{nil, l, l[:1]} {
		y, _ := rewrite.Parallel(r, x, steps)
		spoil(y)
	}
	if showSystem(r) != inR || show(x) != inX || showSteps(l) != inL {
		t.Error("an argument has changed", showSystem(r), show(x), showSteps(l))
	}
}

// P4.6

// expectReducts reports a result of Reducts that is not the expected one.
func expectReducts(t *testing.T, r []api.Rule, x api.Term, want string) {
	t.Helper()
	if l, e := rewrite.Reducts(r, x); e != api.OK || showTerms(l) != want {
		t.Errorf("%.80s: %.80s: %.80s, error %d, expected %.80s", showSystem(r), show(x), showTerms(l), e, want)
	}
}

func TestReducts(t *testing.T) {
	for _, x := range []struct{ r, t, want string }{
		{"a -> b f(x, x) -> x", "f(a, a)", "a, f(a, b), f(b, a)"},
		{"a -> b f(x, x) -> x", "f(b, x)", ""},
		{"", "a", ""},
		{"a -> b a -> b", "a", "b"},
		{"a -> d a -> b a -> c", "a", "b, c, d"},
		{"a -> a", "f(a, a)", "f(a, a)"},
		{"g(x) -> x", "g(g(g(a)))", "g(g(a))"},
		{"g(x) -> x", "f(g(z), g(y))", "f(?z, g(?y)), f(g(?z), ?y)"},
		{"g(x) -> x g(x) -> b g(x) -> h(x)", "g(y)", "?y, b, h(?y)"},
		{"f(x, y) -> x f(x, y) -> y f(x, y) -> f(y, x)", "f(f(a, b), c)", "c, f(a, b), f(a, c), f(b, c), f(c, f(a, b)), f(f(b, a), c)"},
	} {
		expectReducts(t, system(t, x.r), parse(t, x.t), x.want)
	}
}

func TestReductsLimits(t *testing.T) {
	r := system(t, "a -> s(a) a -> b d(x) -> k(x, x)")
	deep := chain(api.MaxDeep-2, f("a"))
	if l, e := rewrite.Reducts(r, deep); len(l) != 2 || e != api.OK {
		t.Error(len(l), e)
	}
	for _, x := range []api.Term{chain(1, deep), f("f", f("a"), chain(1, f("d", wide(2000, f("c"))))), f("f", f("d", wide(1999, f("c"))), f("a"))} {
		if l, e := rewrite.Reducts(r, x); len(l) > 0 || e != api.ErrLimit {
			t.Error(len(l), e)
		}
	}
	if l, e := rewrite.Reducts(r, f("d", wide(1999, f("c")))); len(l) != 1 || term.Size(l[0]) != 3999 || e != api.OK {
		t.Error(len(l), e)
	}
	same := slices.Repeat([]api.Rule{rule(f("a"), f("a"))}, api.MaxRules)
	expectReducts(t, same, wide(1000, f("a")), show(wide(1000, f("a"))))
}

func TestReductsAll(t *testing.T) {
	d := dice(6)
	for _, r := range systems(t) {
		for range 60 {
			x := d.term(5, "x", "z")
			var want []api.Term
			for _, s := range stepsOf(t, r, x) {
				want = append(want, after(t, r, x, s))
			}
			slices.SortFunc(want, term.Compare)
			expectReducts(t, r, x, showTerms(slices.CompactFunc(want, term.Equal)))
		}
	}
}

func TestReductsMemory(t *testing.T) {
	r := system(t, "a -> b g(x) -> h(x, x, k(c))")
	x := parse(t, "f(f(a, k(c)), f(g(k(a)), k(d)))")
	inR, inX := showSystem(r), show(x)
	l, _ := rewrite.Reducts(r, x)
	for i := range l {
		kept := showTerms(l[i+1:])
		spoil(l[i])
		if showTerms(l[i+1:]) != kept {
			t.Error("two terms share memory", i)
		}
	}
	if len(l) != 3 || showSystem(r) != inR || show(x) != inX {
		t.Error("a result shares memory with an argument", showSystem(r), show(x))
	}
}

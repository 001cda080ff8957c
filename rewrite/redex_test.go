package rewrite_test

import (
	"testing"

	"dwindle/api"
	"dwindle/rewrite"
)

// expectRedexes reports a result of Redexes that is not the expected one.
func expectRedexes(t *testing.T, r []api.Rule, x api.Term, strategy int, want string) {
	t.Helper()
	if l, e := rewrite.Redexes(r, x, strategy); e != api.OK || showSteps(l) != want {
		t.Errorf("%.80s: %.80s under %d: %.80s, error %d, expected %.80s", showSystem(r), show(x), strategy, showSteps(l), e, want)
	}
}

// P4.1

func TestRedexes(t *testing.T) {
	for _, x := range []struct {
		r, t string
		want [5]string // under the strategies in their order
	}{
		{"a -> b f(x, x) -> x", "f(a, a)", [5]string{"1[] 0[0] 0[1]", "0[0] 0[1]", "1[]", "0[0]", "1[]"}},
		{"a -> b f(x, x) -> x", "f(a, b)", [5]string{"0[0]", "0[0]", "0[0]", "0[0]", "0[0]"}},
		{"a -> b f(x, x) -> x", "f(b, x)", [5]string{}},
		{"a -> b", "x", [5]string{}},
		{"", "f(a, b)", [5]string{}},
		{"g(x) -> x g(a) -> a a -> a g(g(x)) -> x", "g(g(a))", [5]string{"0[] 3[] 0[0] 1[0] 2[0 0]", "2[0 0]", "0[] 3[]", "2[0 0]", "0[] 3[]"}},
		{"g(x) -> x g(a) -> a", "h(g(g(a)), g(a))", [5]string{"0[0] 0[0 0] 1[0 0] 0[1] 1[1]", "0[0 0] 1[0 0] 0[1] 1[1]", "0[0] 0[1] 1[1]", "0[0 0] 1[0 0]", "0[0]"}},
		{"a -> b a -> b a -> a", "f(c, a)", [5]string{"0[1] 1[1] 2[1]", "0[1] 1[1] 2[1]", "0[1] 1[1] 2[1]", "0[1] 1[1] 2[1]", "0[1] 1[1] 2[1]"}},
		{"a -> b h(x, y, z) -> x", "h(h(a, x, a), a, h(x, x, x))", [5]string{
			"1[] 1[0] 0[0 0] 0[0 2] 0[1] 1[2]", "0[0 0] 0[0 2] 0[1] 1[2]", "1[]", "0[0 0]", "1[]"}},
		{"f(x, g(x)) -> x", "f(f(y, g(y)), g(f(y, g(y))))", [5]string{"0[] 0[0] 0[1 0]", "0[0] 0[1 0]", "0[]", "0[0]", "0[]"}},
		{"f(x, f(y, x)) -> x", "f(z, f(z, y))", [5]string{}},
	} {
		for i, strategy := range strategies() {
			expectRedexes(t, system(t, x.r), parse(t, x.t), strategy, x.want[i])
		}
	}
}

// A symbol is another one if it is marked, is a variable or has another number of arguments.
func TestRedexesSymbols(t *testing.T) {
	r := []api.Rule{rule(f("g", v("x")), f("c")), rule(f("x"), f("c"))}
	for _, strategy := range strategies() {
		expectRedexes(t, r, f("f", f("g"), f("g", v("x"), v("x")), f("g#", v("x")), v("x"), v("g")), strategy, "")
		expectRedexes(t, r, f("g#", f("g", f("g", v("x"), v("x")))), strategy, "0[0]")
		expectRedexes(t, r, f("f#", v("x"), f("x")), strategy, "1[1]")
	}
	same := []api.Rule{rule(f("f", v("x"), v("x")), v("x"))}
	expectRedexes(t, same, f("f", v("x"), f("x")), api.StAny, "")
	expectRedexes(t, same, f("f", f("x"), f("x")), api.StAny, "0[]")
}

func TestRedexesAll(t *testing.T) {
	d := dice(2)
	count := 0
	for _, r := range systems(t) {
		for range 60 {
			x := d.term(6, "x", "z")
			for _, strategy := range strategies() {
				want := stepsUnder(t, r, x, strategy)
				expectRedexes(t, r, x, strategy, showSteps(want))
				count += len(want)
			}
		}
	}
	if count < 5000 {
		t.Error("too few steps", count)
	}
}

func TestRedexesLimits(t *testing.T) {
	deep := chain(api.MaxDeep-1, v("x"))
	r := []api.Rule{rule(deep, f("c")), rule(f("s", v("y")), v("y"))}
	l, e := rewrite.Redexes(r, deep, api.StAny)
	if len(l) != api.MaxDeep || l[0].Rule != 0 || l[1].Rule != 1 || len(l[api.MaxDeep-1].Pos) != api.MaxDeep-2 || e != api.OK {
		t.Error(len(l), e)
	}
	expectRedexes(t, r, deep, api.StFirst, "0[] 1[]")
	if l, e := rewrite.Redexes(r, deep, api.StLeft); len(l) != 1 || len(l[0].Pos) != api.MaxDeep-2 || e != api.OK {
		t.Error(len(l), e)
	}
	large := wide(api.MaxSize, f("c"))
	expectRedexes(t, []api.Rule{rule(large, f("c"))}, large, api.StInner, "0[]")
	half := wide(api.MaxSize/2-1, f("c"))
	expectRedexes(t, []api.Rule{rule(f("f", v("x"), v("x")), v("x"))}, f("f", half, half), api.StAny, "0[]")
	var many []api.Rule
	for range api.MaxRules {
		many = append(many, rule(f("c"), f("d")))
	}
	if l, e := rewrite.Redexes(many, large, api.StOuter); len(l)%api.MaxRules != 0 || len(l) < 3000*api.MaxRules || l[63].Rule != 63 || e != api.OK {
		t.Error(len(l), e)
	}
}

func TestRedexesErrors(t *testing.T) {
	r := system(t, "a -> b")
	for _, strategy := range notStrategies() {
		if l, e := rewrite.Redexes(r, f("a"), strategy); len(l) > 0 || e != api.ErrArg {
			t.Error(strategy, l, e)
		}
		if l, e := rewrite.Redexes(r, f("-"), strategy); len(l) > 0 || e != api.ErrForm {
			t.Error("the term comes before the strategy", strategy, l, e)
		}
	}
}

func TestRedexesMemory(t *testing.T) {
	r := system(t, "g(x) -> x g(g(x)) -> x f(x, y) -> y")
	x := parse(t, "f(g(g(g(f(a, b)))), g(g(b)))")
	for _, strategy := range strategies() {
		l, _ := rewrite.Redexes(r, x, strategy)
		before := showSteps(l)
		for i := range l {
			kept := showSteps(l[i+1:])
			spoilPos(l[i].Pos)
			if showSteps(l[i+1:]) != kept {
				t.Error("two positions share memory", i, l)
			}
		}
		expectRedexes(t, r, x, strategy, before)
	}
}

// P4.3

func TestIsNormal(t *testing.T) {
	for _, x := range []struct {
		r, t string
		want bool
	}{
		{"a -> b", "b", true}, {"a -> b", "a", false}, {"a -> a", "f(b, g(a))", false}, {"", "a", true}, {"a -> b", "x", true},
		{"f(x, x) -> x", "f(a, b)", true}, {"f(x, x) -> x", "g(f(g(a), g(a)))", false}, {"f(x, x) -> x", "f(x, y)", true},
		{"f(x, x) -> x", "f(x, x)", false}, {"g(a) -> a", "g(x)", true}, {"g(x) -> a", "g(g)", false},
	} {
		if ok, e := rewrite.IsNormal(system(t, x.r), parse(t, x.t)); ok != x.want || e != api.OK {
			t.Error(x, ok, e)
		}
	}
	r := []api.Rule{rule(f("a"), f("b"))}
	if ok, e := rewrite.IsNormal(r, wide(api.MaxSize, f("b"))); !ok || e != api.OK {
		t.Error(ok, e)
	}
	if ok, e := rewrite.IsNormal(r, chain(api.MaxDeep-1, f("a"))); ok || e != api.OK {
		t.Error(ok, e)
	}
}

func TestIsNormalAll(t *testing.T) {
	d := dice(3)
	count := 0
	for _, r := range systems(t) {
		for range 100 {
			x := d.term(4, "x")
			want := len(stepsOf(t, r, x)) == 0
			if ok, e := rewrite.IsNormal(r, x); ok != want || e != api.OK {
				t.Error(showSystem(r), show(x), ok, e)
			}
			if want {
				count++
			}
		}
	}
	if count < 300 || count > 2500 {
		t.Error("too few of a kind", count)
	}
}

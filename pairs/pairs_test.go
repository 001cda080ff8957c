package pairs_test

import (
	"fmt"
	"slices"
	"strings"
	"testing"

	"dwindle/api"
	"dwindle/pairs"
	"dwindle/term"
)

// P10.1

func TestMark(t *testing.T) {
	longest := strings.Repeat("a", api.MaxName-1)
	for _, x := range []struct{ t, want api.Term }{
		{f("a"), f("a#")},
		{f("f", v("x"), f("g", v("y"))), f("f#", v("x"), f("g", v("y")))},
		{f("f", f("f", f("f"))), f("f#", f("f", f("f")))},
		{f("f", f("g#", v("x"))), f("f#", f("g#", v("x")))},
		{f("x", v("x")), f("x#", v("x"))},
		{f(longest, f(longest)), f(longest+"#", f(longest))},
		{f("f", f(longest+"a")), f("f#", f(longest+"a"))},
		{tower(api.MaxDeep-1, "s", v("x")), f("s#", tower(api.MaxDeep-2, "s", v("x")))},
		{wide(api.MaxSize, f("c")), marked(wide(api.MaxSize, f("c")))},
	} {
		got, e := pairs.Mark(x.t)
		if e != api.OK || !term.Equal(got, x.want) {
			t.Errorf("%.80s: %.80s, error %d", show(x.t), show(got), e)
		}
	}
}

func TestMarkErrors(t *testing.T) {
	long := strings.Repeat("a", api.MaxName)
	l := []oddTerm{
		{"variable", v("x"), api.ErrForm},
		{"marked", f("f#"), api.ErrForm},
		{"marked with arguments", f("f#", v("x"), f("g")), api.ErrForm},
		{"longest name, marked", f(long[1:] + "#"), api.ErrForm},
		{"longest variable", v(long), api.ErrForm},
		{"longest name", f(long), api.ErrLimit},
		{"longest name with arguments", f(long, v("x"), f("g#")), api.ErrLimit},
	}
	for _, x := range append(l, oddTerms()...) {
		if got, e := pairs.Mark(x.t); e != x.e || !term.Equal(got, api.Term{}) {
			t.Errorf("%s: %.80s, error %d", x.name, show(got), e)
		}
	}
}

func TestDefined(t *testing.T) {
	for _, x := range []struct{ r, want string }{
		{"", "[]"},
		{"a -> b", "[a]"},
		{"g(x) -> a f(x, g(y)) -> b", "[f g]"},
		{"f(g(x)) -> a f(h(x)) -> x a -> a f(x) -> k(x)", "[a f]"},
		{"b -> c a -> c ab -> c B -> c 0 -> c a' -> c _ -> c a0 -> c", "[0 B _ a a' a0 ab b]"},
	} {
		if l, e := pairs.Defined(system(t, x.r)); fmt.Sprint(l) != x.want || e != api.OK {
			t.Error(x, l, e)
		}
	}
}

// P10.2

func TestOf(t *testing.T) {
	for _, x := range []struct{ r, want string }{
		{"", ""},
		{"a -> b", ""},
		{"a -> a", "a# -> a#"},
		{"f(x) -> x", ""},
		// Example 1 of the chapter, and the examples 2 to 5 of the document.
		{"add(0, y) -> y add(s(x), y) -> s(add(x, y)) mul(0, y) -> 0 mul(s(x), y) -> add(mul(x, y), y)",
			"add#(s(x), y) -> add#(x, y); mul#(s(x), y) -> add#(mul(x, y), y); mul#(s(x), y) -> mul#(x, y)"},
		{"ack(0, y) -> s(y) ack(s(x), 0) -> ack(x, s(0)) ack(s(x), s(y)) -> ack(x, ack(s(x), y))",
			"ack#(s(x), 0) -> ack#(x, s(0)); ack#(s(x), s(y)) -> ack#(x, ack(s(x), y)); ack#(s(x), s(y)) -> ack#(s(x), y)"},
		{"minus(x, 0) -> x minus(s(x), s(y)) -> minus(x, y) quot(0, s(y)) -> 0 quot(s(x), s(y)) -> s(quot(minus(x, y), s(y)))",
			"minus#(s(x), s(y)) -> minus#(x, y); quot#(s(x), s(y)) -> quot#(minus(x, y), s(y)); quot#(s(x), s(y)) -> minus#(x, y)"},
		{"f(f(x)) -> f(g(f(x)))", "f#(f(x)) -> f#(g(f(x)))"},
		{"f(x) -> g(f(s(x)))", "f#(x) -> f#(s(x))"},
		// A proper subterm of the left side of the same rule is left out, another term is not.
		{"f(f(x)) -> f(x)", ""},
		{"f(x) -> f(x)", "f#(x) -> f#(x)"},
		{"f(f(x)) -> h(f(f(x)), f(x))", "f#(f(x)) -> f#(f(x))"},
		{"f(h(a, f(x))) -> h(f(x), f(f(x)))", "f#(h(a, f(x))) -> f#(f(x))"},
		{"f(g(x)) -> h(g(x), x) g(x) -> f(f(g(x)))", "g#(x) -> f#(f(g(x))); g#(x) -> f#(g(x)); g#(x) -> g#(x)"},
		{"f(g(x), y) -> g(y) g(x) -> x", "f#(g(x), y) -> g#(y)"},
		// The order is that of the rules, and then preorder.
		{"g(x) -> h(a, f(g(b), f(x, a))) f(x, y) -> g(g(y)) a -> f(a, b)",
			"g#(x) -> a#; g#(x) -> f#(g(b), f(x, a)); g#(x) -> g#(b); g#(x) -> f#(x, a); " +
				"f#(x, y) -> g#(g(y)); f#(x, y) -> g#(y); a# -> f#(a, b); a# -> a#"},
		// Equal pairs, but not variants of them, are left out.
		{"f(x) -> h(f(a), f(a)) f(x) -> f(a)", "f#(x) -> f#(a)"},
		{"f(x) -> f(h(x)) f(y) -> f(h(y)) f(x) -> h(f(h(x)))", "f#(x) -> f#(h(x)); f#(y) -> f#(h(y))"},
		{"f(a) -> f(b) f(b) -> f(b)", "f#(a) -> f#(b); f#(b) -> f#(b)"},
	} {
		p, e := pairs.Of(system(t, x.r))
		if e != api.OK || showRules(p) != showRules(list(t, x.want)) {
			t.Errorf("%s: %s, error %d", x.r, showRules(p), e)
		}
	}
	// A variable with the name of a defined symbol has no root symbol.
	r := []api.Rule{rule(f("f", v("f"), f("a")), f("g", v("f"))), rule(f("x"), f("f", f("a"), f("a")))}
	if p, e := pairs.Of(r); showRules(p) != "x# -> f#(a, a)" || e != api.OK {
		t.Error(showRules(p), e)
	}
	// A constant is not the variable of that name, which is a proper subterm of the left side.
	r = []api.Rule{rule(f("f", v("a")), f("g", v("a"), f("a"))), rule(f("a"), f("b"))}
	if p, e := pairs.Of(r); showRules(p) != "f#(?a) -> a#" || e != api.OK {
		t.Error(showRules(p), e)
	}
}

func TestOfAll(t *testing.T) {
	count := 0
	for _, r := range systems(t) {
		p, e := pairs.Of(r)
		if e != api.OK || showRules(p) != showRules(pairsOf(r)) {
			t.Errorf("%s: %s, error %d", showRules(r), showRules(p), e)
		}
		if e := pairs.Check(p, r); e != api.OK {
			t.Error(showRules(r), showRules(p), e)
		}
		count += len(p)
	}
	if count < 150 {
		t.Error("too few pairs", count)
	}
}

func TestOfLimits(t *testing.T) {
	long := strings.Repeat("a", api.MaxName)
	for _, x := range []struct {
		name string
		r    []api.Rule
		n    int
		e    api.Errno
	}{
		{"name that need not be marked", []api.Rule{rule(f(long, v("x")), v("x"))}, 0, api.OK},
		{"left side that need not be marked", []api.Rule{rule(f(long, f("f", f("a"))), f("f", f("a"))), rule(f("f", v("x")), f("f", f("g", v("x"))))}, 1, api.OK},
		{"long name that is not defined", []api.Rule{rule(f("f", v("x")), f("f", f(long)))}, 1, api.OK},
		{"long name on the left", []api.Rule{rule(f(long, v("x")), f("f", f("a"))), rule(f("f", v("x")), v("x"))}, 0, api.ErrLimit},
		{"long name on the right", []api.Rule{rule(f("f", v("x")), f("g", f(long))), rule(f(long), f("a"))}, 0, api.ErrLimit},
		{"long name after other pairs", []api.Rule{rule(f("f", v("x")), f("f", f("f", f(long)))), rule(f(long), f("a"))}, 0, api.ErrLimit},
		{"longest name", []api.Rule{rule(f(long[1:]), f(long[1:]))}, 1, api.OK},
		{"64 pairs", []api.Rule{rule(f("f", v("x")), tower(64, "f", f("a")))}, 64, api.OK},
		{"65 pairs", []api.Rule{rule(f("f", v("x")), tower(65, "f", f("a")))}, 0, api.ErrLimit},
		{"64 pairs that occur twice", []api.Rule{
			rule(f("f", v("x")), f("h", tower(64, "f", f("a")), tower(64, "f", f("a")))), rule(f("f", v("x")), tower(33, "f", f("a")))}, 64, api.OK},
		{"65 pairs of two rules", []api.Rule{rule(f("f", v("x")), tower(64, "f", f("a"))), rule(f("g", v("x")), f("f", v("x")))}, 0, api.ErrLimit},
		{"65 pairs and a long name", []api.Rule{rule(f("f", v("x")), tower(64, "f", f(long))), rule(f(long), f("a"))}, 0, api.ErrLimit},
	} {
		if p, e := pairs.Of(x.r); e != x.e || len(p) != x.n {
			t.Error(x.name, len(p), e)
		}
	}
	// 64 rules with the deepest and the largest terms.
	var r []api.Rule
	for i := range api.MaxRules {
		r = append(r, rule(f(fmt.Sprint("f", i), tower(api.MaxDeep-2, "s", v("x"))), f("h", wide(api.MaxSize-3, v("x")), f(fmt.Sprint("f", i), v("x")))))
	}
	p, e := pairs.Of(r)
	if e != api.OK || len(p) != api.MaxRules {
		t.Fatal(len(p), e)
	}
	for i, x := range p {
		if !term.Equal(x.Left, marked(r[i].Left)) || !term.Equal(x.Right, marked(r[i].Right.Args[1])) {
			t.Error(i)
		}
	}
}

// P10.3

func TestCheck(t *testing.T) {
	for _, x := range []struct{ p, r string }{
		{"", ""},
		{"", "a -> b"},
		{"f#(x) -> f#(x)", ""},
		{"f#(f(x, y)) -> g#(x); g#(y) -> f#(y)", "f(x, y) -> g(y, x, x)"}, // a symbol and its marked form are different
		{"a# -> a#; b# -> a#", "f(x) -> x"},
		{"a#(x, y, z) -> b#(z, z)", "a -> b"},
		{"f#(x, h(y)) -> f#(h(h(x)), y)", "h(x) -> x"},
		{"f#(x) -> f#(a); f#(y) -> f#(y)", ""},
	} {
		if e := pairs.Check(list(t, x.p), system(t, x.r)); e != api.OK {
			t.Error(x, e)
		}
	}
	many := slices.Repeat(list(t, "f#(x) -> f#(x)"), api.MaxRules)
	if e := pairs.Check(many, nil); e != api.OK {
		t.Error(e)
	}
	// The name of a variable does not count as a symbol.
	named := []api.Rule{rule(f("f#", v("f"), v("a")), f("f#", v("a"), f("a", v("f"))))}
	if e := pairs.Check(named, []api.Rule{rule(f("f", v("a")), v("a"))}); e != api.OK {
		t.Error(e)
	}
}

func TestCheckErrors(t *testing.T) {
	r := plainRules(t)
	for _, x := range oddPairs(t) {
		if e := pairs.Check(x.r, r); e != x.e {
			t.Error(x.name, e)
		}
	}
	for _, x := range oddSystems() {
		if e := pairs.Check(list(t, "f#(x) -> f#(x)"), x.r); e != x.e {
			t.Error(x.name, e)
		}
	}
	// A symbol of the pairs has another number of arguments in the rules alone.
	for _, s := range []string{"f#(g(x, y)) -> f#(x)", "f#(x) -> f#(g(x, x))", "f#(x) -> f#(h(g, x))"} {
		if e := pairs.Check(list(t, s), r); e != api.ErrName {
			t.Error(s, e)
		}
		if e := pairs.Check(list(t, s), nil); e != api.OK {
			t.Error(s, e)
		}
	}
}

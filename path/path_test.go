package path_test

import (
	"fmt"
	"slices"
	"strings"
	"testing"

	"dwindle/api"
	"dwindle/path"
	"dwindle/term"
)

// P6.1

func TestCheck(t *testing.T) {
	long := strings.Repeat("f", api.MaxName-1)
	for _, l := range [][]api.Rank{
		nil,
		{},
		{{Name: "a"}},
		{{Name: "a", Rank: api.MaxRank}, {Name: "b", Rank: 0}, {Name: "c", Rank: api.MaxRank}},
		{{Name: "'"}, {Name: "0"}, {Name: "B"}, {Name: "_"}, {Name: "a"}, {Name: "a#"}, {Name: "a'"}, {Name: "aa"}, {Name: "b#"}},
		{{Name: long + "#"}, {Name: long + "f"}},
		symbols(api.MaxSymbols),
	} {
		if e := path.Check(l); e != api.OK {
			t.Error(l, e)
		}
	}
}

func TestCheckErrors(t *testing.T) {
	for _, x := range oddPrecedences() {
		if e := path.Check(x.l); e != x.e {
			t.Errorf("%s: error %d, expected %d", x.name, e, x.e)
		}
	}
}

func TestRank(t *testing.T) {
	l := ranks(t, "B 5 f 7 f# 3 f1 1000 g 0 h 9")
	for name, want := range map[string]int{
		"B": 5, "f": 7, "f#": 3, "f1": 1000, "g": 0, "h": 9,
		"A": 0, "C": 0, "F": 0, "f0": 0, "f2": 0, "fa": 0, "g#": 0, "i": 0, "": 0, "#": 0, "f##": 0, "f ": 0, strings.Repeat("f", 100): 0,
	} {
		if n, e := path.Rank(l, name); n != want || e != api.OK {
			t.Error(name, n, e)
		}
	}
	if n, e := path.Rank(nil, "f"); n != 0 || e != api.OK {
		t.Error(n, e)
	}
	for _, x := range symbols(api.MaxSymbols) {
		if n, e := path.Rank(symbols(api.MaxSymbols), x.Name); n != x.Rank || e != api.OK {
			t.Error(x, n, e)
		}
	}
}

// P6.2

func TestGreater(t *testing.T) {
	l := ranks(t, "0 0 add 2 mul 3 s 1 sub 2")
	for _, x := range []struct {
		s, t string
		want bool
	}{
		// no term that is a variable is greater
		{"x", "x", false}, {"x", "y", false}, {"x", "0", false},
		// 1: an argument is equal or greater
		{"s(x)", "x", true}, {"s(x)", "y", false}, {"s(s(x))", "x", true}, {"add(0, y)", "y", true}, {"add(x, mul(0, s(z)))", "z", true},
		{"s(mul(x, y))", "add(x, y)", true}, {"p(q(x))", "q(x)", true}, {"p(q(p(0)))", "p(0)", true}, {"s(add(x, y))", "add(y, x)", false},
		// 2: a greater symbol
		{"add(s(x), y)", "s(add(x, y))", true}, {"mul(s(x), y)", "add(mul(x, y), y)", true}, {"add(x, y)", "s(s(x))", true}, {"s(0)", "0", true},
		{"add(x, y)", "mul(x, y)", false}, {"add(x, y)", "s(z)", false}, {"mul(x, y)", "add(y, add(x, z))", false}, {"s(x)", "p(q(0), x)", true},
		{"add(x, x)", "s(0)", true}, {"0", "s(0)", false}, {"mul(x, 0)", "p(add(s(x), s(x)), x, 0)", true},
		// 3: the same symbol
		{"add(s(x), y)", "add(x, s(y))", true}, {"add(x, s(y))", "add(s(x), y)", false}, {"add(x, s(y))", "add(x, y)", true},
		{"add(s(x), y)", "add(x, add(x, y))", true}, {"add(s(x), y)", "add(x, add(s(x), y))", false}, {"add(s(x), y)", "add(x, mul(x, y))", false},
		{"add(x, y)", "add(y, x)", false}, {"add(x, y)", "add(x, y)", false}, {"add(s(x), y)", "add(x, z)", false}, {"add(x, s(x))", "add(x, x)", true},
		{"p(x, s(y), z)", "p(x, y, s(z))", false}, {"p(x, s(y), s(z))", "p(x, y, s(z))", true}, {"p(s(x), y, z)", "p(x, p(x, y, z), p(x, y, z))", true},
		{"s(0)", "s(0)", false}, {"0", "0", false},
		// different symbols with equal ranks, and different numbers of arguments
		{"add(x, y)", "sub(x, y)", false}, {"sub(x, y)", "add(x, y)", false}, {"p(x)", "q(x)", false}, {"p(0)", "p(0, 0)", false}, {"p(0, 0)", "p(0)", false},
		{"p(q(x), y)", "p(x)", false}, {"p(q(x), y)", "p(x, y, y)", false}, {"add(s(x), y)", "sub(x, y)", false}, {"p(r(x))", "q(x)", false}, {"p", "0", false},
		{"p(p(0, x), y)", "p(0, x)", true}, {"p(p(0, 0))", "p(p(0), 0)", false},
	} {
		expectGreater(t, l, parse(t, x.s), parse(t, x.t), x.want)
	}
}

// A rank applies to a name, whatever the number of arguments; variables have no rank; a marked symbol has its own.
func TestGreaterNames(t *testing.T) {
	l := ranks(t, "f 2 f# 1 x 3")
	for _, x := range []struct {
		s, t api.Term
		want bool
	}{
		{f("f"), f("g", f("g", f("g"))), true},
		{f("f", v("y"), v("z")), f("g", v("z")), true},
		{f("f", v("y")), f("f#", v("y")), true},
		{f("f#", v("y")), f("f", v("y")), false},
		{f("f#", v("y")), f("g", v("y"), v("y")), true},
		{f("f#", f("f#", v("y"))), f("f#", v("y")), true},
		{v("x"), f("f"), false},
		{v("x"), v("y"), false},
		{v("x"), f("x"), false},
		{f("x"), v("x"), false},
		{f("x"), f("f"), true},
		{f("x", v("x")), v("x"), true},
		{f("g", f("x")), v("x"), false},
		{f("g", v("x")), f("x"), false},
		{f("x", v("f")), f("f", f("f", v("f"))), true},
		{f("x", f("f")), f("f", v("f")), false},
	} {
		expectGreater(t, l, x.s, x.t, x.want)
	}
}

// Both definitions agree on all small terms for all precedences.
func TestGreaterAll(t *testing.T) {
	list := flatTerms()
	for _, l := range precedences(3) {
		for _, a := range list {
			for _, b := range list {
				expectGreater(t, l, a, b, above(l, a, b))
			}
		}
	}
}

func TestGreaterMany(t *testing.T) {
	d := dice(1)
	count := map[bool]int{}
	for range 30000 {
		l, a, b := d.ranks(), d.term(4, "x", "y"), d.term(4, "x", "y")
		want := above(l, a, b)
		count[want]++
		expectGreater(t, l, a, b, want)
		// terms that differ at one position only
		positions, _ := term.Positions(a)
		c, _ := term.Put(a, positions[d.below(len(positions))], d.term(2, "x", "y"))
		want = above(l, a, c)
		count[want]++
		expectGreater(t, l, a, c, want)
	}
	if count[true] < 10000 || count[false] < 10000 {
		t.Error("too few of a kind", count)
	}
}

// Large terms for which the definition, taken literally, would not end.
func TestGreaterLarge(t *testing.T) {
	deepest := tower(api.MaxDeep-1, f("0"))
	deep := deepest.Args[0]
	tree, same := f("0"), f("0")
	for range 10 {
		tree, same = f("f", tree, tree), f("f", same, same)
	}
	less, _ := term.Put(tree, []int{1, 1, 1, 1, 1, 1, 1, 1, 1, 1}, f("a"))
	large, other, symbol := wide(api.MaxSize, "w", v("x")), wide(api.MaxSize, "v", v("x")), f("f", wide(api.MaxSize-1, "v", v("x")))
	for _, x := range []struct {
		name string
		l    []api.Rank
		s, t api.Term
		want bool
	}{
		{"deep", nil, deepest, deep, true},
		{"deep, the other way round", nil, deep, deepest, false},
		{"deep and equal", nil, deepest, deepest, false},
		{"deep and another constant", nil, deepest, tower(api.MaxDeep-2, f("a")), false},
		{"deep and a smaller constant", ranks(t, "0 1"), deepest, tower(api.MaxDeep-1, f("a")), true},
		{"deep and smaller symbols", ranks(t, "0 2 s 1"), f("0"), tower(api.MaxDeep-1, f("a")), true},
		{"deep and smaller symbols around a variable", ranks(t, "0 2 s 1"), f("0"), tower(api.MaxDeep-1, v("x")), false},
		{"equal trees", nil, tree, same, false},
		{"tree and its part", nil, tree, tree.Args[1], true},
		{"tree and a smaller tree", ranks(t, "0 1"), tree, less, true},
		{"tree and a greater tree", ranks(t, "a 1"), tree, less, false},
		{"large", ranks(t, "w 1"), large, other, true},
		{"large, the other way round", ranks(t, "w 1"), other, large, false},
		{"large and incomparable", nil, large, other, false},
		{"large and one symbol more", ranks(t, "f 1"), symbol, large, true},
	} {
		if ok, e := path.Greater(x.l, x.s, x.t); ok != x.want || e != api.OK {
			t.Error(x.name, ok, e)
		}
	}
}

// P6.3

func TestOrients(t *testing.T) {
	for _, x := range []struct {
		l, r string
		want []bool
	}{
		{"add 2 s 1", "", nil},
		{"add 2 s 1", "add(0, y) -> y add(s(x), y) -> s(add(x, y))", []bool{true, true}},
		{"add 1 s 1", "add(0, y) -> y add(s(x), y) -> s(add(x, y))", []bool{true, false}},
		{"", "add(s(x), y) -> s(add(x, y)) add(0, y) -> y", []bool{false, true}},
		{"ack 2 s 1", "ack(0, y) -> s(y) ack(s(x), 0) -> ack(x, s(0)) ack(s(x), s(y)) -> ack(x, ack(s(x), y))", []bool{true, true, true}},
		{"minus 1 quot 2 s 1", "minus(x, 0) -> x minus(s(x), s(y)) -> minus(x, y) quot(0, s(y)) -> 0 quot(s(x), s(y)) -> s(quot(minus(x, y), s(y)))", []bool{true, true, true, false}},
		{"f 1", "f(f(x)) -> f(g(f(x)))", []bool{false}},
		{"", "a -> a f(x, y) -> f(y, x) f(x, x) -> x", []bool{false, false, true}},
		{"a 1000 b 999", "a -> b b -> a a -> c b -> c c -> c", []bool{true, false, true, true, false}},
	} {
		got, e := path.Orients(ranks(t, x.l), system(t, x.r))
		if !slices.Equal(got, x.want) || e != api.OK {
			t.Error(x.l, x.r, got, e)
		}
	}
	most := slices.Repeat(system(t, "a -> b"), api.MaxRules)
	if got, e := path.Orients(ranks(t, "a 1"), most); !slices.Equal(got, slices.Repeat([]bool{true}, api.MaxRules)) || e != api.OK {
		t.Error(got, e)
	}
}

func TestOrientsMany(t *testing.T) {
	d := dice(2)
	count := map[bool]int{}
	for range 2000 {
		l, r := d.ranks(), d.system()
		got, e := path.Orients(l, r)
		if len(got) != len(r) || e != api.OK {
			t.Fatal(l, showSystem(r), got, e)
		}
		for i, x := range r {
			count[got[i]]++
			if got[i] != above(l, x.Left, x.Right) {
				t.Error(l, showSystem(r), got)
			}
		}
	}
	if count[true] < 500 || count[false] < 500 {
		t.Error("too few of a kind", count)
	}
}

// Errors

// The errors of an argument come before those of the arguments after it, whatever they are.
func TestErrors(t *testing.T) {
	l, a, r := ranks(t, "a 1"), f("a"), system(t, "a -> b")
	rank := func(what string, l []api.Rank, name string, want api.Errno) {
		if n, e := path.Rank(l, name); n != 0 || e != want {
			t.Errorf("Rank: %s: %d, error %d, expected %d", what, n, e, want)
		}
	}
	greater := func(what string, l []api.Rank, a, b api.Term, want api.Errno) {
		if ok, e := path.Greater(l, a, b); ok || e != want {
			t.Errorf("Greater: %s: %v, error %d, expected %d", what, ok, e, want)
		}
	}
	orients := func(what string, l []api.Rank, r []api.Rule, want api.Errno) {
		if list, e := path.Orients(l, r); len(list) != 0 || e != want {
			t.Errorf("Orients: %s: %v, error %d, expected %d", what, list, e, want)
		}
	}
	for _, x := range oddPrecedences() {
		rank(x.name, x.l, "a", x.e)
		rank(x.name, x.l, "", x.e)
		greater(x.name, x.l, f("g", a), a, x.e)
		orients(x.name, x.l, r, x.e)
		for _, y := range oddTerms() {
			greater(x.name+", "+y.name, x.l, y.t, a, x.e)
			greater(x.name+", "+y.name, x.l, a, y.t, x.e)
		}
		for _, y := range oddSystems() {
			orients(x.name+", "+y.name, x.l, y.r, x.e)
		}
	}
	for _, x := range oddTerms() {
		greater(x.name, l, x.t, a, x.e)
		greater(x.name, l, a, x.t, x.e)
		for _, y := range oddTerms() {
			greater(x.name+", "+y.name, l, x.t, y.t, x.e)
		}
	}
	for _, x := range oddSystems() {
		orients(x.name, l, x.r, x.e)
	}
}

// No function depends on anything but its arguments, or changes them.
func TestAnyArguments(t *testing.T) {
	d := dice(3)
	for range 300 {
		l, a, b, r := d.ranks(), d.term(4, "x", "y"), d.term(4, "x", "y"), d.system()
		if d.below(4) == 0 {
			odd := oddPrecedences()
			l = slices.Clone(odd[d.below(len(odd))].l)
		}
		write := func() string { return fmt.Sprint(l, show(a), show(b), showSystem(r)) }
		call := func() string {
			e := path.Check(l)
			n, e2 := path.Rank(l, "f")
			ok, e3 := path.Greater(l, a, b)
			list, e4 := path.Orients(l, r)
			s := fmt.Sprint(e, n, e2, ok, e3, list, e4)
			clear(list)
			return s
		}
		before, first := write(), call()
		if again := call(); again != first {
			t.Error("different results", before, first, again)
		}
		if write() != before {
			t.Error("an argument has changed", before, write())
		}
	}
}

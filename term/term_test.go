package term_test

import (
	"slices"
	"strings"
	"testing"

	"dwindle/api"
	"dwindle/term"
)

// P1.1

func TestIsName(t *testing.T) {
	for _, x := range []struct {
		s                string
		symbol, variable bool
	}{
		{"", false, false},
		{"#", false, false},
		{"##", false, false},
		{"a", true, true},
		{"Z", true, true},
		{"0", true, true},
		{"_", true, true},
		{"'", true, true},
		{"azAZ09_'", true, true},
		{"a#", true, false},
		{"'#", true, false},
		{"a##", false, false},
		{"#a", false, false},
		{"a#b", false, false},
		{"a-b", false, false},
		{"a b", false, false},
		{"a\x00", false, false},
		{"é", false, false},
		{"\xff", false, false},
		{"a(", false, false},
		{"@", false, false},
		{"[", false, false},
		{"`", false, false},
		{"{", false, false},
		{"/", false, false},
		{":", false, false},
		{"\"", false, false},
		{"&", false, false},
		{"(", false, false},
		{"^", false, false},
		{strings.Repeat("a", 24), true, true},
		{strings.Repeat("a", 25), false, false},
		{strings.Repeat("a", 23) + "#", true, false},
		{strings.Repeat("a", 24) + "#", false, false},
	} {
		if term.IsName(x.s, true) != x.symbol || term.IsName(x.s, false) != x.variable {
			t.Errorf("%q: %v %v", x.s, term.IsName(x.s, true), term.IsName(x.s, false))
		}
	}
}

func TestCheck(t *testing.T) {
	for _, x := range []api.Term{
		v("x"), f("c"), f("f#", v("x"), f("g#", f("c"))), f("x", v("x")),
		{Name: "x", Var: true, Args: []api.Term{}},
		f("f", v("a"), v("a"), v("a"), v("a"), v("a"), v("a"), v("a"), v("a")),
		f("f", f("g", v("x")), f("g")),
		chain(api.MaxDeep-1, f("c")),
		chain(api.MaxDeep-1, v("x")),
		wide(api.MaxSize, f("c")),
	} {
		expect(t, show(x)[:min(40, len(show(x)))], term.Check(x), api.OK)
	}
	for _, x := range odd() {
		expect(t, x.name, term.Check(x.t), x.e)
	}
}

// A few slices are a term of 2^200 nodes, or one without end.
func TestCheckShared(t *testing.T) {
	bomb := func(x api.Term) api.Term {
		for range 199 {
			l := []api.Term{x, x}
			x = f("f", l...)
		}
		return x
	}
	expect(t, "shared", term.Check(bomb(f("c"))), api.ErrLimit)
	expect(t, "shared and malformed", term.Check(bomb(f("-"))), api.ErrForm)
	ring := make([]api.Term, 2)
	ring[0], ring[1] = f("f", ring...), f("c")
	expect(t, "ring", term.Check(ring[0]), api.ErrLimit)
	ring[1] = f("")
	expect(t, "ring and malformed", term.Check(ring[0]), api.ErrForm)
	ring[0] = f("f", ring[:1]...)
	expect(t, "parts of one slice", term.Check(f("f", f("f", ring[:1]...), f("f", ring...))), api.ErrForm)
	expect(t, "parts of one slice", term.Check(f("f", f("f", ring...), f("f", ring[:1]...))), api.ErrForm)
}

// P1.2

func TestMeasures(t *testing.T) {
	for i, x := range []struct {
		t                  api.Term
		size, depth, count int
	}{
		{v("x"), 1, 1, 1},
		{f("x"), 1, 1, 0},
		{f("f", v("x"), f("g", v("y")), v("x")), 5, 3, 2},
		{f("f", f("g", f("h", v("x"))), f("c")), 5, 4, 1},
		{f("x", f("x", v("x")), v("xx"), v("X")), 5, 3, 1},
		{api.Term{}, 1, 1, 0},
		{api.Term{Name: "x", Var: true, Args: []api.Term{v("x"), f("g", v("y"), v("x"))}}, 5, 3, 3},
		{chain(500, v("x")), 501, 501, 1},
		{chain(1<<16, v("x")), 1<<16 + 1, 1<<16 + 1, 1},
		{wide(4681, v("x")), 4681, 5, 4096},
	} {
		if n := term.Size(x.t); n != x.size {
			t.Errorf("term %d: size %d, expected %d", i, n, x.size)
		}
		if n := term.Depth(x.t); n != x.depth {
			t.Errorf("term %d: depth %d, expected %d", i, n, x.depth)
		}
		if n := term.Count(x.t, "x"); n != x.count {
			t.Errorf("term %d: count %d, expected %d", i, n, x.count)
		}
	}
	if term.Count(v(""), "") != 1 || term.Count(v("x"), "") != 0 || term.Count(v("-"), "-") != 1 {
		t.Error("names that are not valid are counted too")
	}
}

// P1.3

// ascending returns terms, also malformed ones, in strictly increasing order.
func ascending() []api.Term {
	return []api.Term{
		v(""), v("A"), v("a"), v("a1"), v("b"),
		{Name: "b", Var: true, Args: []api.Term{v("a")}},
		v("z"), v("\xff"),
		f(""), f("A"), f("Z", v("x")), f("_"),
		f("a"), f("a", v("x")), f("a", v("y")), f("a", f("a")), f("a", f("a", v("x"))), f("a", f("b")),
		f("a", v("x"), v("x")), f("a", v("x"), v("y")), f("a", v("x"), f("c")), f("a", v("y"), v("x")),
		f("a", f("c"), v("x")), f("a", f("c"), v("x"), v("x")),
		f("a#"), f("a0"), f("aa"), f("b"), f("b", v("a")), f("é"),
	}
}

func TestCompare(t *testing.T) {
	list := ascending()
	for i, a := range list {
		for j, b := range list {
			want := 0
			if i < j {
				want = -1
			} else if i > j {
				want = 1
			}
			if c := term.Compare(a, b); c != want {
				t.Errorf("%s and %s: %d, expected %d", show(a), show(b), c, want)
			}
			if term.Equal(a, b) != (i == j) {
				t.Errorf("%s and %s: Equal", show(a), show(b))
			}
		}
	}
}

func TestEqualFields(t *testing.T) {
	a := f("f", v("x"), f("g", v("y")))
	for _, b := range []api.Term{
		f("g", v("x"), f("g", v("y"))),
		{Name: "f", Var: true, Args: a.Args},
		f("f", v("x")),
		f("f", v("x"), f("g", v("y")), v("x")),
		f("f", f("x"), f("g", v("y"))),
		f("f", v("x"), f("g", v("z"))),
		f("f", v("x"), f("g", f("y"))),
		f("f", v("x"), f("g")),
	} {
		if term.Equal(a, b) || term.Equal(b, a) || term.Compare(a, b) != -term.Compare(b, a) || term.Compare(a, b) == 0 {
			t.Errorf("%s and %s", show(a), show(b))
		}
	}
	empty := api.Term{Name: "c", Args: []api.Term{}}
	if !term.Equal(a, f("f", v("x"), f("g", v("y")))) || !term.Equal(empty, f("c")) || term.Compare(empty, f("c")) != 0 {
		t.Error("equal terms")
	}
	if deep := chain(1<<16, v("x")); !term.Equal(deep, chain(1<<16, v("x"))) || term.Compare(deep, chain(1<<16, f("c"))) != -1 {
		t.Error("deep terms")
	}
}

// P1.4

func TestVars(t *testing.T) {
	for _, x := range []struct {
		t    api.Term
		vars []string
	}{
		{f("c"), nil},
		{f("x", f("y")), nil},
		{v("x"), []string{"x"}},
		{f("f", v("y"), f("g", v("x")), v("y")), []string{"x", "y"}},
		{f("f", v("b"), v("a'"), v("_"), v("a"), v("B"), v("9"), f("f", v("a0"), v("b"))), []string{"9", "B", "_", "a", "a'", "a0", "b"}},
	} {
		if l, e := term.Vars(x.t); !slices.Equal(l, x.vars) || e != api.OK {
			t.Error(show(x.t), l, e)
		}
	}
	for _, x := range odd() {
		if l, e := term.Vars(x.t); len(l) > 0 || e != x.e {
			t.Error(x.name, l, e)
		}
	}
}

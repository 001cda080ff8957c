package read_test

import (
	"slices"
	"strings"
	"testing"

	"dwindle/api"
	"dwindle/read"
	"dwindle/term"
)

// P2.1

func TestTerm(t *testing.T) {
	long := strings.Repeat("a", api.MaxName)
	for _, x := range []struct {
		s    string
		want api.Term
	}{
		{"x", v("x")},
		{"c", f("c")},
		{"c()", f("c")},
		{"c ( ) ", f("c")},
		{"X", f("X")},
		{"xx", f("xx")},
		{"x#", f("x#")},
		{"x#(x)", f("x#", v("x"))},
		{"0", f("0")},
		{"_'9Az", f("_'9Az")},
		{"y'(y')", f("y'", f("y'"))},
		{"f(x, g(y), x)", f("f", v("x"), f("g", v("y")), v("x"))},
		{"f(f(f),f(f,f()))", f("f", f("f", f("f")), f("f", f("f"), f("f")))},
		{"\t\r\n f\n(\rx\t,\n\ny )\t ", f("f", v("x"), v("y"))},
		{"f(1,2,3,4,5,6,7,x)", f("f", f("1"), f("2"), f("3"), f("4"), f("5"), f("6"), f("7"), v("x"))},
		{"VAR(RULES, x)", f("VAR", f("RULES"), v("x"))},
		{long, f(long)},
		{long[1:] + "#(x)", f(long[1:]+"#", v("x"))},
	} {
		expectTerm(t, x.s, []string{"x", "y"}, x.want)
	}
}

func TestTermVariables(t *testing.T) {
	long := strings.Repeat("x", api.MaxName)
	expectTerm(t, "x", nil, f("x"))
	expectTerm(t, "x(x)", []string{}, f("x", f("x")))
	expectTerm(t, "f(x)", []string{"y", "x", "y"}, f("f", v("x")))
	expectTerm(t, "g(VAR, "+long+")", []string{long, "VAR", "RULES"}, f("g", v("VAR"), v(long)))
	for _, name := range []string{"", "#", "x#", "x y", "x-", "é", "\x00", long + "x", " x"} {
		expectNoTerm(t, "f(x)", []string{"x", name}, 0, api.ErrForm)
		expectNoTerm(t, "f(-", []string{name, "x"}, 0, api.ErrForm)
		expectNoTerm(t, strings.Repeat(" ", api.MaxSource+1), []string{name}, 0, api.ErrLimit)
	}
}

// misplacedInTerms returns sources that are no terms with the variables x and y, with the offsets of the errors.
func misplacedInTerms() map[string]int {
	long := strings.Repeat("a", api.MaxName+1)
	return map[string]int{
		// the source ends too early
		"": 0, " ": 1, "\n\t\r ": 4, "f(": 2, "f( ": 3, "f(x": 3, "f(x  ": 5, "f(x,": 4, "f(g(x)": 6, "f(1,2,3,4,5,6,7,8": 17, "f(1,2,3,4,5,6,7,8,": 18,
		// tokens
		"f(x,,y)": 4, "f(,x)": 2, "f(x,)": 4, "f(x y)": 4, "f(x))": 4, "(x)": 0, ")": 0, ",": 0, "->": 0, "f,": 1, "x y": 2, "f()()": 3, "f(x)(y)": 4,
		"f(x) g": 5, "f(())": 2, "f -> g": 2, "f(->)": 2, "f(x -> y)": 4, "f(c()d)": 5,
		// a variable with parentheses
		"x(c)": 1, "x()": 1, "x (": 2, "f(x, y \n(": 8, "f(x(": 3,
		// bytes
		"-": 0, "f-": 1, "f -": 2, "f - g": 2, "f(x-)": 3, "f(- >": 2, ">": 0, "f(x;y)": 3, "f[x]": 1, "f(x)\x00": 4, "\x00": 0, "\v": 0, "f\f": 1, "f(\x80)": 2,
		"é": 0, "fé": 1, "f(é": 2, "f(x,\u00a0y)": 4, "f(\"x\")": 2, "f.g": 1, "f(x)%": 4, "a*b": 1, "{": 0, "@": 0, "`": 0, "/": 0, ":": 0, "\xff": 0,
		// names
		"#": 0, "##": 0, "f##": 0, "#f": 0, "f#g": 0, "f(#)": 2, "f( a#b)": 3, "f#(g#(x#y))": 6, "x#x": 0, "f(x #": 4, "f(x, a##": 5,
		long: 0, long + "(x)": 0, "f(" + long: 2, "f(x, " + long: 5, long[1:] + "#": 0, long[1:] + "(x, " + long: len(long) + 3, "f(x " + long: 4,
		// too many arguments
		"f(1,2,3,4,5,6,7,8,9)": 18, "f(1,2,3,4,5,6,7,8, 9)": 19, "f(1,2,3,4,5,6,7,8,9,10": 18, "f(1,2,3,4,5,6,7,8,)": 18, "f(1,2,3,4,5,6,7,8,-": 18,
		"g(f(1,2,3,4,5,6,7,8,g(c)), )": 20, "f(1,2,3,4,5,6,7,g(1,2,3,4,5,6,7,8), x": 36, "f(1,2,3,4,5,6,7,8 9)": 18,
		// the first error counts, whatever follows
		"f(,-": 2, "f(x) -)": 5, "f(x(#": 3, "f((é": 2,
	}
}

func TestTermOffsets(t *testing.T) {
	for s, at := range misplacedInTerms() {
		expectNoTerm(t, s, []string{"x", "y"}, at, api.ErrForm)
	}
}

func TestTermLimits(t *testing.T) {
	pad := strings.Repeat(" ", api.MaxSource-4)
	expectTerm(t, "f(c"+pad+")", nil, f("f", f("c")))
	expectNoTerm(t, "f(c"+pad+" )", nil, 0, api.ErrLimit)
	expectNoTerm(t, pad+"%    ", nil, 0, api.ErrLimit)
	expectNoTerm(t, pad+"%   ", nil, len(pad), api.ErrForm)
	if x, at, e := read.Term(deep(api.MaxDeep-1), nil); term.Depth(x) != api.MaxDeep || at != 0 || e != api.OK {
		t.Error(at, e)
	}
	expectNoTerm(t, deep(api.MaxDeep), nil, 0, api.ErrLimit)
	expectNoTerm(t, deep(6666), nil, 0, api.ErrLimit)
	expectNoTerm(t, deep(6666)+")", nil, 19999, api.ErrForm)
	expectNoTerm(t, strings.Repeat("f(", api.MaxSource/2), nil, api.MaxSource, api.ErrForm)
	for size, want := range map[int]api.Errno{api.MaxSize: api.OK, api.MaxSize + 1: api.ErrLimit} {
		s := source(wide(size, 1))
		if x, at, e := read.Term(s, nil); at != 0 || e != want || e == api.OK && term.Size(x) != size || e != api.OK && !term.Equal(x, api.Term{}) {
			t.Error(size, at, e)
		}
		expectNoTerm(t, s+"%", nil, len(s), api.ErrForm)
	}
}

// source writes a term without blanks.
func source(t api.Term) string {
	var args []string
	for _, x := range t.Args {
		args = append(args, source(x))
	}
	if len(args) == 0 {
		return t.Name
	}
	return t.Name + "(" + strings.Join(args, ",") + ")"
}

// Each list of arguments has memory of its own.
func TestTermMemory(t *testing.T) {
	vars := []string{"y", "x"}
	a, _, _ := read.Term("f(g(x), g(y), h(x, y, c()), k)", vars)
	for i := range a.Args {
		l := a.Args[i].Args
		l = l[:cap(l)]
		for j := range l {
			l[j].Name += string(rune('0' + i))
		}
	}
	if s := source(a); s != "f(g(x0),g(y1),h(x2,y2,c2),k)" {
		t.Error(s)
	}
	if !slices.Equal(vars, []string{"y", "x"}) {
		t.Error(vars)
	}
}

// P2.3

func TestSystem(t *testing.T) {
	for s, want := range map[string][]api.Rule{
		"(RULES)":                    nil,
		" (\tRULES\r\n)\n":           nil,
		"(VAR)(RULES)":               nil,
		"(VAR x y)(RULES)":           nil,
		"(RULES a -> b)":             rules(f("a"), f("b")),
		"(RULES a->b()b->a)":         rules(f("a"), f("b"), f("b"), f("a")),
		"(RULES f(x) -> f(x))":       rules(f("f", f("x")), f("f", f("x"))),
		"(VAR x)(RULES f(x) -> x)":   rules(f("f", v("x")), v("x")),
		"(VAR x x)(RULES f(x) -> x)": rules(f("f", v("x")), v("x")),
		"(VAR x y) (RULES add(0, y) -> y add(s(x), y) -> s(add(x, y)))": rules(
			f("add", f("0"), v("y")), v("y"), f("add", f("s", v("x")), v("y")), f("s", f("add", v("x"), v("y")))),
		"(VAR VAR RULES)(RULES f(VAR, RULES) -> f(VAR,VAR))": rules(f("f", v("VAR"), v("RULES")), f("f", v("VAR"), v("VAR"))),
		"(RULES RULES(VAR) -> RULES (VAR) VAR -> VAR)":       rules(f("RULES", f("VAR")), f("RULES", f("VAR")), f("VAR"), f("VAR")),
	} {
		expectSystem(t, s, want)
	}
}

// misplacedInSystems returns sources that are no systems, with the offsets of the errors.
func misplacedInSystems() map[string]int {
	long := strings.Repeat("a", api.MaxName+1)
	return map[string]int{
		// the source ends too early
		"": 0, "  ": 2, "(": 1, "( ": 2, "(VAR": 4, "(VAR x": 6, "(VAR x) ": 8, "(VAR x)(": 8, "(RULES": 6, "(RULES ": 7, "(RULES a": 8, "(RULES a ->": 11,
		"(RULES a -> b": 13, "(RULES a -> b c": 15, "(RULES f(a": 10, "(RULES a -> b(c)": 16,
		// sections
		"RULES": 0, ")": 0, "()": 1, "((": 1, "(x": 1, "(->": 1, "(RULE a -> b)": 1, "(RULESx)": 1, "(rules)": 1, "(VARx)(RULES)": 1, "(var)": 1, "(RULES#)": 1, "(VAR#)": 1,
		"(VAR x) (RULE a -> b)": 9, "(VAR x)RULES": 7, "(VAR x)(VAR y)(RULES)": 8, "(VAR x)()": 8, "(VAR x))": 7,
		"(RULES)(": 7, "(RULES))": 7, "(RULES)a": 7, "(RULES) (VAR x)": 8, "(RULES)(RULES)": 7, "(RULES) %": 8, "(RULES)->": 7,
		// declarations
		"(VAR x,y)(RULES)": 6, "(VAR (": 5, "(VAR ->": 5, "(VAR x#)(RULES)": 5, "(VAR x y#": 7, "(VAR x y##": 7, "(VAR #)": 5, "(VAR x-)": 6, "(VAR é)": 5,
		"(VAR " + long: 5, "(VAR x " + long + ")": 7, "(VAR x -": 7, "(VAR f(x))": 6,
		// rules
		"(RULES a - b)": 9, "(RULES a > b)": 9, "(RULES a b)": 9, "(RULES a)": 8, "(RULES a ->)": 11, "(RULES a -> b -> c)": 14, "(RULES -> b)": 7, "(RULES , a": 7,
		"(RULES a -> b, b -> c)": 13, "(RULES (a -> b))": 7, "(RULES a -> (b))": 12, "(RULES a == b)": 9, "(RULES a -> b %": 14, "(RULES a -": 9,
		"(RULES f(,) -> b)": 9, "(RULES f(a)) -> b)": 11, "(RULES f(a b) -> b)": 11, "(RULES a#b -> b": 7, "(RULES a -> " + long + ")": 12,
		"(RULES f(1,2,3,4,5,6,7,8,  9) -> c)": 27, "(RULES c -> f(1,2,3,4,5,6,7,8,9))": 30,
		"(VAR x)(RULES x(a) -> a)": 15, "(VAR x)(RULES a -> x (a) -> a)": 21, "(VAR RULES)(RULES RULES(a) -> a)": 23, "(VAR f)(RULES f() -> a)": 15,
		"(VAR RULES VAR)(RULES f(VAR RULES) -> a)": 28,
		// before the errors of a system
		"(RULES a# -> b# %": 16, "(VAR x)(RULES x -> x": 20, "(RULES a -> a(a)": 16,
	}
}

func TestSystemOffsets(t *testing.T) {
	for s, at := range misplacedInSystems() {
		expectNoSystem(t, s, at, api.ErrForm)
	}
}

func TestSystemErrors(t *testing.T) {
	for s, want := range map[string]api.Errno{
		"(RULES a# -> b)":                                          api.ErrName,
		"(RULES a -> f(b#(c)))":                                    api.ErrName,
		"(RULES a -> a(b))":                                        api.ErrName,
		"(RULES a -> f(a) f(a, a) -> a)":                           api.ErrName,
		"(VAR x)(RULES x -> a)":                                    api.ErrVar,
		"(VAR x)(RULES a -> b a -> x)":                             api.ErrVar,
		"(VAR x y)(RULES f(x) -> f(y))":                            api.ErrVar,
		"(VAR x)(RULES x -> a(a))":                                 api.ErrName,
		"(RULES a# -> " + deep(200) + ")":                          api.ErrLimit,
		"(VAR x)(RULES " + deep(200) + " -> x)":                    api.ErrLimit,
		"(RULES a -> " + source(wide(4001, 1)):                     api.ErrForm,
		"(RULES a->" + source(wide(4001, 1)) + ")":                 api.ErrLimit,
		"(RULES" + strings.Repeat(" a->b", api.MaxRules) + ")":     api.OK,
		"(RULES" + strings.Repeat(" a->b", api.MaxRules+1) + ")":   api.ErrLimit,
		"(RULES" + strings.Repeat(" a#->a#", api.MaxRules+1) + ")": api.ErrLimit,
		"(RULES" + strings.Repeat(" a->b", 3000) + ")":             api.ErrLimit,
	} {
		switch want {
		case api.OK:
			expectSystem(t, s, slices.Repeat(rules(f("a"), f("b")), api.MaxRules))
		case api.ErrForm:
			expectNoSystem(t, s, len(s), want)
		default:
			expectNoSystem(t, s, 0, want)
		}
	}
	pad := strings.Repeat(" ", api.MaxSource-14)
	expectSystem(t, "(RULES a -> b)"+pad, rules(f("a"), f("b")))
	expectNoSystem(t, "(RULES a -> b "+pad, api.MaxSource, api.ErrForm)
	expectNoSystem(t, "(RULES a -> b)"+pad+" ", 0, api.ErrLimit)
	expectNoSystem(t, "%"+pad+strings.Repeat(" ", 14), 0, api.ErrLimit)
}

package term_test

import (
	"strings"
	"testing"

	"dwindle/api"
	"dwindle/term"
)

// bind returns a substitution of names and terms.
func bind(l ...any) []api.Bind {
	var s []api.Bind
	for i := 0; i < len(l); i += 2 {
		s = append(s, api.Bind{Name: l[i].(string), Term: l[i+1].(api.Term)})
	}
	return s
}

// oddSubsts returns substitutions that are not valid, with their errors.
func oddSubsts() []struct {
	name string
	s    []api.Bind
	e    api.Errno
} {
	large := wide(api.MaxSize+1, f("c"))
	return []struct {
		name string
		s    []api.Bind
		e    api.Errno
	}{
		{"no name", bind("", f("c")), api.ErrForm},
		{"marked", bind("x#", f("c")), api.ErrForm},
		{"blank", bind("x", f("c"), "y ", f("c")), api.ErrForm},
		{"long name", bind(strings.Repeat("x", 25), f("c")), api.ErrForm},
		{"not increasing", bind("y", f("c"), "x", f("c")), api.ErrForm},
		{"not byte order", bind("a", f("c"), "B", f("c")), api.ErrForm},
		{"twice", bind("x", f("c"), "x", f("c")), api.ErrForm},
		{"malformed", bind("x", v("x"), "y", f("")), api.ErrForm},
		{"too large", bind("x", v("x"), "y", large), api.ErrLimit},
		{"term by term", bind("x", large, "y", f("")), api.ErrLimit},
		{"term by term, the other way round", bind("x", f(""), "y", large), api.ErrForm},
		{"names before terms", bind("x", large, "x", v("x")), api.ErrForm},
		{"all names before terms", bind("x", large, "y", v("x"), "", v("x")), api.ErrForm},
	}
}

// P1.6

func TestCheckSubst(t *testing.T) {
	for _, s := range [][]api.Bind{
		nil, {}, bind("x", v("x")), bind("B", v("y"), "a", f("f#", v("a")), "a'", f("c")),
		bind(strings.Repeat("x", 24), chain(199, f("c")), "y", wide(api.MaxSize, v("y"))),
	} {
		expect(t, "valid", term.CheckSubst(s), api.OK)
	}
	for _, x := range oddSubsts() {
		expect(t, x.name, term.CheckSubst(x.s), x.e)
	}
}

func TestApply(t *testing.T) {
	a := f("f", v("x"), f("g", v("y")), f("x"), v("z"))
	for _, x := range []struct {
		s    []api.Bind
		want api.Term
	}{
		{nil, a},
		{bind("w", f("c")), a},
		{bind("x", v("x")), a},
		{bind("x", v("y"), "y", v("x")), f("f", v("y"), f("g", v("x")), f("x"), v("z"))},
		{bind("x", f("h", v("x")), "y", f("h", v("x"))), f("f", f("h", v("x")), f("g", f("h", v("x"))), f("x"), v("z"))},
		{bind("x", f("c"), "y", v("z"), "z", f("f#", v("y"), v("y"))), f("f", f("c"), f("g", v("z")), f("x"), f("f#", v("y"), v("y")))},
	} {
		y, e := term.Apply(x.s, a)
		expectTerm(t, showSubst(x.s), y, e, x.want)
	}
	y, e := term.Apply(bind("x", f("c")), v("x"))
	expectTerm(t, "variable", y, e, f("c"))
}

func TestApplyErrors(t *testing.T) {
	for _, x := range oddSubsts() {
		y, e := term.Apply(x.s, v("x"))
		expectNone(t, x.name, y, e, x.e)
		y, e = term.Apply(x.s, wide(api.MaxSize+1, f("c")))
		expectNone(t, x.name, y, e, x.e)
		y, e = term.Apply(x.s, f(""))
		expectNone(t, x.name, y, e, x.e)
	}
	for _, x := range odd() {
		y, e := term.Apply(bind("x", f("c")), x.t)
		expectNone(t, x.name, y, e, x.e)
	}
}

func TestApplyLimits(t *testing.T) {
	s := bind("x", wide(800, v("y")), "y", chain(100, f("c")))
	five := func(last api.Term) api.Term { return f("f", v("x"), v("x"), v("x"), v("x"), last) }
	if y, e := term.Apply(s, five(wide(799, f("c")))); e != api.OK || term.Size(y) != api.MaxSize {
		t.Error(e, term.Size(y))
	}
	y, e := term.Apply(s, five(wide(800, f("c"))))
	expectNone(t, "too large", y, e, api.ErrLimit)
	y, e = term.Apply(s, five(v("x")))
	expectNone(t, "too large", y, e, api.ErrLimit)
	y, e = term.Apply(s, chain(99, v("y")))
	expectTerm(t, "deepest", y, e, chain(199, f("c")))
	y, e = term.Apply(s, chain(100, v("y")))
	expectNone(t, "too deep", y, e, api.ErrLimit)
	y, e = term.Apply(bind("x", wide(api.MaxSize, v("x"))), wide(api.MaxSize, v("x")))
	expectNone(t, "12 million nodes", y, e, api.ErrLimit)
	y, e = term.Apply(bind("c", wide(api.MaxSize, v("x"))), f("c", f("c")))
	expectTerm(t, "the symbol c is not the variable c", y, e, f("c", f("c")))
}

func TestCompose(t *testing.T) {
	for _, x := range []struct {
		name       string
		s, u, want []api.Bind
	}{
		{"empty", nil, nil, nil},
		{"only s", bind("x", f("h", v("y"))), nil, bind("x", f("h", v("y")))},
		{"only u", nil, bind("x", f("h", v("y"))), bind("x", f("h", v("y")))},
		{"s first", bind("x", f("h", v("y"))), bind("x", f("c"), "y", v("x")), bind("x", f("h", v("x")), "y", v("x"))},
		{"identity stays", bind("x", v("y")), bind("y", v("x")), bind("x", v("x"), "y", v("x"))},
		{"identity of u stays", bind("y", f("c")), bind("x", v("x")), bind("x", v("x"), "y", f("c"))},
		{"merged", bind("b", v("a"), "d", v("c")), bind("a", f("a"), "c", f("c"), "e", f("e")), bind("a", f("a"), "b", f("a"), "c", f("c"), "d", f("c"), "e", f("e"))},
	} {
		l, e := term.Compose(x.s, x.u)
		if showSubst(l) != showSubst(x.want) || e != api.OK {
			t.Error(x.name, showSubst(l), e)
		}
	}
}

func TestComposeErrors(t *testing.T) {
	none := func(what string, s, u []api.Bind, want api.Errno) {
		t.Helper()
		if l, e := term.Compose(s, u); len(l) > 0 || e != want {
			t.Error(what, showSubst(l), e)
		}
	}
	for _, x := range oddSubsts() {
		none(x.name, x.s, bind("x", f("c")), x.e)
		none(x.name, bind("x", f("c")), x.s, x.e)
		none(x.name, x.s, bind("", f("c")), x.e)
		none(x.name, x.s, bind("x", wide(4001, f("c"))), x.e)
		none("the errors of u come before the size", bind("x", f("f", v("z"), v("z"))), append(bind("a", f("c")), x.s...), term.CheckSubst(append(bind("a", f("c")), x.s...)))
	}
	none("too large", bind("x", f("c"), "y", f("f", v("z"), v("z"))), bind("z", wide(2000, f("c"))), api.ErrLimit)
	none("too deep", bind("x", chain(100, v("z"))), bind("z", chain(100, v("z"))), api.ErrLimit)
	if l, e := term.Compose(bind("x", chain(100, v("z"))), bind("z", chain(99, v("z")))); e != api.OK || len(l) != 2 || term.Depth(l[0].Term) != api.MaxDeep {
		t.Error(e)
	}
}

func TestSubstMemory(t *testing.T) {
	s, u := bind("x", f("h", f("g", v("y"))), "z", f("h", f("c"))), bind("w", f("k", f("c")), "y", f("m", f("c")))
	a := f("f", v("x"), v("x"), f("g", v("z")), v("w"))
	before := showSubst(s) + showSubst(u) + show(a)
	y, _ := term.Apply(s, a)
	spoil(y.Args[0])
	if !alike(y.Args[1], f("h", f("g", v("y")))) {
		t.Error("two parts of a result share memory")
	}
	spoil(y)
	y, _ = term.Apply(nil, a)
	spoil(y)
	l, _ := term.Compose(s, u)
	for i := range l {
		spoil(l[i].Term)
		l[i] = api.Bind{}
	}
	l, _ = term.Compose(nil, u)
	for i := range l {
		spoil(l[i].Term)
	}
	l, _ = term.Compose(s, nil)
	for i := range l {
		spoil(l[i].Term)
	}
	y, _ = term.Rename(a, "1")
	spoil(y)
	y, _ = term.Canonical(a)
	spoil(y)
	if showSubst(s)+showSubst(u)+show(a) != before {
		t.Error("a result shares memory with an argument")
	}
}

// P1.7

func TestRename(t *testing.T) {
	a := f("f", v("x"), f("x"), f("g#", v("y'"), v("x")))
	for _, x := range []struct {
		suffix string
		want   api.Term
	}{
		{"", a},
		{"1", f("f", v("x1"), f("x"), f("g#", v("y'1"), v("x1")))},
		{"_'Zz09", f("f", v("x_'Zz09"), f("x"), f("g#", v("y'_'Zz09"), v("x_'Zz09")))},
	} {
		y, e := term.Rename(a, x.suffix)
		expectTerm(t, x.suffix, y, e, x.want)
	}
	y, e := term.Rename(v("xy"), strings.Repeat("a", 22))
	expectTerm(t, "longest", y, e, v("xy"+strings.Repeat("a", 22)))
	y, e = term.Rename(f("c"), strings.Repeat("a", 1000))
	expectTerm(t, "no variable", y, e, f("c"))
	y, e = term.Rename(f("f", v("x"), v("xy"), v("z")), strings.Repeat("a", 23))
	expectNone(t, "too long", y, e, api.ErrLimit)
	for _, s := range []string{"#", "a#", "-", " ", "a b", "é", "\x00", "(", strings.Repeat("a", 40) + "."} {
		y, e = term.Rename(a, s)
		expectNone(t, s, y, e, api.ErrForm)
		y, e = term.Rename(f("c"), s)
		expectNone(t, "no variable and "+s, y, e, api.ErrForm)
	}
	for _, x := range odd() {
		y, e = term.Rename(x.t, "#")
		expectNone(t, x.name, y, e, x.e)
	}
}

func TestCanonical(t *testing.T) {
	for _, x := range []struct{ t, want api.Term }{
		{f("c"), f("c")},
		{v("y"), v("x0")},
		{f("f", v("x"), f("g", v("y")), v("x")), f("f", v("x0"), f("g", v("x1")), v("x0"))},
		{f("f", v("x1"), v("x0"), f("x2", v("x1")), v("a")), f("f", v("x0"), v("x1"), f("x2", v("x0")), v("x2"))},
	} {
		y, e := term.Canonical(x.t)
		expectTerm(t, show(x.t), y, e, x.want)
	}
	many := make([]api.Term, 8)
	want := make([]api.Term, 8)
	for i := range many {
		one, two := make([]api.Term, 2), make([]api.Term, 2)
		for j := range one {
			one[j] = v("v" + string(rune('z'-2*i-j)))
			two[j] = v("x" + []string{"0", "1", "2", "3", "4", "5", "6", "7", "8", "9", "10", "11", "12", "13", "14", "15"}[2*i+j])
		}
		many[i], want[i] = f("g", one...), f("g", two...)
	}
	y, e := term.Canonical(f("f", many...))
	expectTerm(t, "more than ten", y, e, f("f", want...))
	for _, x := range odd() {
		y, e := term.Canonical(x.t)
		expectNone(t, x.name, y, e, x.e)
	}
}

// P1.10

// substs returns substitutions, also partial ones and ones with identities.
func substs() [][]api.Bind {
	list := [][]api.Bind{nil, bind("w", v("x"))}
	small := []api.Term{f("c"), v("x"), v("y"), f("h", v("y")), f("f", v("y"), v("x")), f("f", v("w"), v("x"))}
	for _, x := range small {
		list = append(list, bind("x", x), bind("y", x))
		for _, y := range small {
			list = append(list, bind("x", x, "y", y))
		}
	}
	return list
}

func TestComposeApplied(t *testing.T) {
	list := terms("w", "x", "y")
	for _, s := range substs() {
		for _, u := range substs() {
			both, e := term.Compose(s, u)
			expect(t, "Compose", e, api.OK)
			expect(t, "CheckSubst", term.CheckSubst(both), api.OK)
			for _, a := range list {
				if one, two := apply(t, both, a), apply(t, u, apply(t, s, a)); !alike(one, two) {
					t.Fatalf("%s, %s, %s: %s, expected %s", showSubst(s), showSubst(u), show(a), show(one), show(two))
				}
			}
		}
	}
}

func TestComposeAssociative(t *testing.T) {
	list := substs()
	a := f("f", f("f", v("w"), v("x")), f("h", v("y")))
	for i, s := range list {
		for j, u := range list {
			w := list[(7*i+j)%len(list)]
			su, _ := term.Compose(s, u)
			uw, _ := term.Compose(u, w)
			left, e := term.Compose(su, w)
			expect(t, "left", e, api.OK)
			right, e := term.Compose(s, uw)
			expect(t, "right", e, api.OK)
			if !alike(apply(t, left, a), apply(t, right, a)) {
				t.Fatalf("%s, %s, %s", showSubst(s), showSubst(u), showSubst(w))
			}
		}
	}
}

// P1.11

// areVariants looks for a renaming, one to one, without canonical forms.
func areVariants(a, b api.Term, to, from map[string]string) bool {
	if a.Var && b.Var {
		x, known := to[a.Name]
		y, taken := from[b.Name]
		if !known && !taken {
			to[a.Name], from[b.Name] = b.Name, a.Name
			return true
		}
		return known && taken && x == b.Name && y == a.Name
	}
	if a.Var || b.Var || a.Name != b.Name || len(a.Args) != len(b.Args) {
		return false
	}
	for i := range a.Args {
		if !areVariants(a.Args[i], b.Args[i], to, from) {
			return false
		}
	}
	return true
}

func TestVariants(t *testing.T) {
	list := deepTerms("x", "x0")
	list = append(list, terms("x", "y", "x1")...)
	forms := make([]api.Term, len(list))
	for i, a := range list {
		x, e := term.Canonical(a)
		expect(t, "Canonical", e, api.OK)
		forms[i] = x
	}
	for i, a := range list {
		for j, b := range list {
			if alike(forms[i], forms[j]) != areVariants(a, b, map[string]string{}, map[string]string{}) {
				t.Fatal(show(a), show(b))
			}
		}
	}
}

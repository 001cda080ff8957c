package pairs_test

import (
	"fmt"
	"testing"

	"dwindle/api"
	"dwindle/pairs"
)

// call has the arguments of all functions.
type call struct {
	p, r       []api.Rule
	t          api.Term
	a, b, most int
}

// goodCall returns arguments with which no function returns an error.
func goodCall(t *testing.T) call {
	t.Helper()
	r := plainRules(t)
	return call{p: list(t, "f#(x, y) -> f#(a, x); f#(x, b) -> g#(x); g#(b) -> f#(a, a)"), r: r, t: parse(t, "f(g(x), x)"), a: 2, b: 1, most: 10}
}

// showCall writes all arguments.
func showCall(c call) string {
	return fmt.Sprint(showRules(c.p), " / ", showRules(c.r), " / ", show(c.t), c.a, c.b, c.most)
}

// function is one of the functions of the package, with the arguments in the order in which their errors come.
type function struct {
	name  string
	args  string // the first letters of the fields of call
	empty string // what is written beside an error
	run   func(c call) (string, api.Errno)
}

// functions returns all functions. A result is written as a string.
func functions() []function {
	return []function{
		{"Mark", "t", "", func(c call) (string, api.Errno) {
			x, e := pairs.Mark(c.t)
			return show(x), e
		}},
		{"Defined", "r", "[]", func(c call) (string, api.Errno) {
			l, e := pairs.Defined(c.r)
			return fmt.Sprint(l), e
		}},
		{"Of", "r", "", func(c call) (string, api.Errno) {
			l, e := pairs.Of(c.r)
			return showRules(l), e
		}},
		{"Check", "rp", "", func(c call) (string, api.Errno) {
			return "", pairs.Check(c.p, c.r)
		}},
		{"Cap", "rt", "", func(c call) (string, api.Errno) {
			x, e := pairs.Cap(c.r, c.t)
			return show(x), e
		}},
		{"Edges", "rp", "[]", func(c call) (string, api.Errno) {
			l, e := pairs.Edges(c.p, c.r)
			return fmt.Sprint(l), e
		}},
		{"Components", "rp", "[]", func(c call) (string, api.Errno) {
			l, e := pairs.Components(c.p, c.r)
			return fmt.Sprint(l), e
		}},
		{"Chain", "rpabm", " by  false", func(c call) (string, api.Errno) {
			x, s, ok, e := pairs.Chain(c.p, c.r, c.a, c.b, c.most)
			return fmt.Sprint(showChain(x), " ", showSubst(s), " ", ok), e
		}},
	}
}

// fault makes an argument invalid.
type fault struct {
	name  string
	spoil func(c *call)
	e     api.Errno
}

// faults returns the faults of an argument.
func faults(t *testing.T, arg rune) []fault {
	t.Helper()
	var l []fault
	add := func(name string, e api.Errno, spoil func(c *call)) {
		l = append(l, fault{name: string(arg) + ": " + name, spoil: spoil, e: e})
	}
	switch arg {
	case 'r':
		for _, x := range oddSystems() {
			add(x.name, x.e, func(c *call) { c.r = x.r })
		}
	case 'p':
		for _, x := range oddPairs(t) {
			add(x.name, x.e, func(c *call) { c.p = x.r })
		}
	case 't':
		for _, x := range oddTerms() {
			add(x.name, x.e, func(c *call) { c.t = x.t })
		}
	case 'a':
		for _, n := range oddNumbers(0, 2) {
			add(fmt.Sprint(n), api.ErrRange, func(c *call) { c.a = n })
		}
	case 'b':
		for _, n := range oddNumbers(0, 2) {
			add(fmt.Sprint(n), api.ErrRange, func(c *call) { c.b = n })
		}
	case 'm':
		for _, n := range oddNumbers(1, api.MaxTerms) {
			add(fmt.Sprint(n), api.ErrArg, func(c *call) { c.most = n })
		}
	}
	return l
}

// expectError reports a function that does not return this error and no result.
func expectError(t *testing.T, what string, x function, c call, want api.Errno) {
	t.Helper()
	if got, e := x.run(c); e != want || got != x.empty {
		t.Errorf("%s: %s: %.80s, error %d, expected %d", what, x.name, got, e, want)
	}
}

// The errors of an argument come before those of the arguments after it, whatever they are.
func TestErrors(t *testing.T) {
	for _, x := range functions() {
		good := goodCall(t)
		if got, e := x.run(good); e != api.OK || got == x.empty && x.name != "Check" {
			t.Errorf("%s: %s, error %d", x.name, got, e)
		}
		for i, arg := range x.args {
			for _, first := range faults(t, arg) {
				c := good
				first.spoil(&c)
				expectError(t, first.name, x, c, first.e)
				for _, later := range x.args[i+1:] {
					for _, second := range faults(t, later) {
						both := c
						second.spoil(&both)
						expectError(t, first.name+", "+second.name, x, both, first.e)
					}
				}
			}
		}
	}
	for _, n := range []int{1, api.MaxTerms} {
		c := goodCall(t)
		if _, _, _, e := pairs.Chain(c.p, c.r[2:], c.a, c.b, n); e != api.OK {
			t.Error(n, e)
		}
	}
	// There is no pair.
	if _, _, _, e := pairs.Chain(nil, nil, 0, 0, 10); e != api.ErrRange {
		t.Error(e)
	}
	// A term of the derivations that is too large comes after all other errors.
	c := goodCall(t)
	c.r = append(c.r, rule(f("c"), wide(api.MaxSize, f("a"))))
	c.p = append(c.p, rule(f("a#"), f("f#", f("c"), f("c"))))
	c.a, c.b = 3, 3
	if _, _, _, e := pairs.Chain(c.p, c.r, c.a, c.b, 0); e != api.ErrArg {
		t.Error(e)
	}
	expectError(t, "too large", functions()[7], c, api.ErrLimit)
}

// The symbols of a term and of a system need not fit.
func TestCapArities(t *testing.T) {
	r := system(t, "g(x) -> x f(x, x) -> x")
	for _, x := range []api.Term{f("g"), f("g#", f("f")), f("f", f("f"), f("f"), f("g#")), f("f#", f("f#"), f("g"))} {
		if c, e := pairs.Cap(r, x); e != api.OK || show(c) != show(x) {
			t.Error(show(x), show(c), e)
		}
	}
}

// No function depends on anything but its arguments, or changes them.
func TestAnyArguments(t *testing.T) {
	d := dice(11)
	for _, x := range problems(t) {
		c := call{p: x.p, r: x.r, t: d.term(5, "x", "y"), a: d.below(6), b: d.below(6), most: 1 + d.below(20)}
		before := showCall(c)
		for _, fn := range functions() {
			first, e := fn.run(c)
			again, e2 := fn.run(c)
			if first != again || e != e2 {
				t.Error("different results", before, fn.name, first, e, again, e2)
			}
			if showCall(c) != before {
				t.Error("an argument has changed", before, showCall(c), fn.name)
			}
		}
	}
}

// spoilRules overwrites all memory that pairs hold, and reports pairs or sides that share memory.
func spoilRules(t *testing.T, p []api.Rule) {
	t.Helper()
	for i, x := range p {
		right, rest := show(x.Right), showRules(p[i+1:])
		spoil(x.Left)
		if show(x.Right) != right || showRules(p[i+1:]) != rest {
			t.Error("a left side is shared", i, show(x.Right), showRules(p[i+1:]))
		}
		spoil(x.Right)
		if showRules(p[i+1:]) != rest {
			t.Error("a right side is shared", i, showRules(p[i+1:]))
		}
	}
	l := p[:cap(p)]
	for i := range l {
		l[i] = rule(f("spoilt"), f("spoilt"))
	}
}

// spoilLists overwrites all memory that lists hold, and reports lists that share memory.
func spoilLists(t *testing.T, l [][]int) {
	t.Helper()
	for i, x := range l {
		rest := fmt.Sprint(l[i+1:])
		spoilInts(x)
		if fmt.Sprint(l[i+1:]) != rest {
			t.Error("two lists share memory", i, rest)
		}
	}
}

// Results share no memory with arguments, or with each other.
func TestMemory(t *testing.T) {
	// The argument has room for an element that does not belong to it.
	room := append(make([]api.Term, 0, 4), f("c"))
	for _, x := range []problem{
		{list(t, "f#(g(x), g(y)) -> f#(g(a), g(h(x)))"), system(t, "a -> g(a)")},
		{list(t, "f#(x, k(h(y))) -> f#(h(a), k(x)); f#(h(x), y) -> f#(h(y), k(h(x)))"),
			system(t, "a -> b f(g(x), y) -> f(f(h(x), a), f(g(x), h(y))) f(h(y), a) -> f(y, f(h(y), a))")},
	} {
		c := call{p: x.p, r: x.r, t: f("k", f("h", v("x")), api.Term{Name: "b", Args: room[:0]}), most: 20}
		before := showCall(c)
		u, _ := pairs.Mark(c.t)
		spoil(u)
		u, _ = pairs.Mark(c.t.Args[1])
		spoil(u)
		u, _ = pairs.Cap(c.r, c.t)
		spoil(u)
		u, _ = pairs.Cap(nil, c.t)
		spoil(u)
		q, _ := pairs.Of(c.r)
		spoilRules(t, q)
		l, _ := pairs.Edges(c.p, c.r)
		spoilLists(t, l)
		l, _ = pairs.Components(c.p, c.r)
		spoilLists(t, l)
		for c.a = range c.p {
			for c.b = range c.p {
				d, s, _, _ := pairs.Chain(c.p, c.r, c.a, c.b, c.most)
				rest := showSubst(s)
				spoil(d.Start)
				for _, step := range d.Steps {
					spoilInts(step.Pos)
				}
				if showSubst(s) != rest {
					t.Error("a derivation and a substitution share memory", rest)
				}
				for _, b := range s {
					spoil(b.Term)
				}
			}
		}
		c.a, c.b = 0, 0
		if showCall(c) != before || room[0].Name != "c" {
			t.Error("a result shares memory with an argument", before, showCall(c), room)
		}
	}
}

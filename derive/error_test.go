package derive_test

import (
	"fmt"
	"math"
	"testing"

	"dwindle/api"
	"dwindle/derive"
)

// call has the arguments of all functions.
type call struct {
	r              []api.Rule
	a, b           api.Chain
	t, u           api.Term
	pos            []int
	s              []api.Bind
	strategy, most int
}

// goodCall returns arguments with which no function returns an error.
func goodCall(t *testing.T) call {
	return call{
		r:        plainRules(t)[:2],
		a:        chain(parse(t, "f(a, a)"), step(0, 0)),
		b:        chain(parse(t, "f(b, a)"), step(0, 1), step(1)),
		t:        parse(t, "f(a, f(a, x))"),
		u:        parse(t, "f(b, f(a, x))"),
		pos:      []int{1, 0},
		s:        []api.Bind{{Name: "x", Term: f("a")}},
		strategy: api.StAny,
		most:     10,
	}
}

// function is one of the functions of the package, with its arguments in their order.
type function struct {
	name string
	args string // the first letters of the fields of call
	run  func(c call) (string, api.Errno)
}

// functions returns all functions. A result is written as a string.
func functions() []function {
	return []function{
		{"Terms", "ra", func(c call) (string, api.Errno) {
			l, e := derive.Terms(c.r, c.a)
			return showTerms(l), e
		}},
		{"Last", "ra", func(c call) (string, api.Errno) {
			x, e := derive.Last(c.r, c.a)
			return show(x), e
		}},
		{"Join", "rab", func(c call) (string, api.Errno) {
			x, e := derive.Join(c.r, c.a, c.b)
			return showChain(x), e
		}},
		{"Inside", "ratp", func(c call) (string, api.Errno) {
			x, e := derive.Inside(c.r, c.a, c.t, c.pos)
			return showChain(x), e
		}},
		{"Instance", "ras", func(c call) (string, api.Errno) {
			x, e := derive.Instance(c.r, c.a, c.s)
			return showChain(x), e
		}},
		{"Follows", "raw", func(c call) (string, api.Errno) {
			ok, e := derive.Follows(c.r, c.a, c.strategy)
			return fmt.Sprint(ok), e
		}},
		{"Explore", "rtm", func(c call) (string, api.Errno) {
			g, e := derive.Explore(c.r, c.t, c.most)
			return showGraph(g), e
		}},
		{"Path", "rtum", func(c call) (string, api.Errno) {
			x, ok, e := derive.Path(c.r, c.t, c.u, c.most)
			return fmt.Sprint(showChain(x), ok), e
		}},
		{"Normals", "rtm", func(c call) (string, api.Errno) {
			l, whole, e := derive.Normals(c.r, c.t, c.most)
			return fmt.Sprint(showTerms(l), whole), e
		}},
		{"Longest", "rtm", func(c call) (string, api.Errno) {
			n, ok, e := derive.Longest(c.r, c.t, c.most)
			return fmt.Sprint(n, ok), e
		}},
	}
}

// empty returns what a function returns beside an error.
func empty(name string) string {
	return map[string]string{
		"Join": " by ", "Inside": " by ", "Instance": " by ", "Follows": "false", "Explore": " /  / false", "Path": " by false",
		"Normals": "false", "Longest": "0 false",
	}[name]
}

// fault makes an argument invalid.
type fault struct {
	name  string
	spoil func(c *call)
	e     api.Errno
}

// faults returns the faults of an argument.
func faults(arg rune) []fault {
	var list []fault
	add := func(name string, e api.Errno, spoil func(c *call)) {
		list = append(list, fault{name: string(arg) + ": " + name, spoil: spoil, e: e})
	}
	switch arg {
	case 'r':
		for _, x := range oddSystems() {
			add(x.name, x.e, func(c *call) { c.r = x.r })
		}
	case 'a':
		for _, x := range oddChains() {
			add(x.name, x.e, func(c *call) { c.a = x.c })
		}
	case 'b':
		for _, x := range oddChains() {
			add(x.name, x.e, func(c *call) { c.b = x.c })
		}
	case 't':
		for _, x := range oddTerms() {
			add(x.name, x.e, func(c *call) { c.t = x.t })
		}
	case 'u':
		for _, x := range oddTerms() {
			add(x.name, x.e, func(c *call) { c.u = x.t })
		}
	case 'p':
		for _, pos := range [][]int{{2}, {-1}, {0, 0}, {1, 0, 0}, {1, 1, 0}, {math.MaxInt}, {math.MinInt}, make([]int, 1000)} {
			add(fmt.Sprint(pos), api.ErrRange, func(c *call) { c.pos = pos })
		}
	case 's':
		for _, x := range oddSubsts() {
			add(x.name, x.e, func(c *call) { c.s = x.s })
		}
	case 'w':
		for _, n := range notStrategies() {
			add(fmt.Sprint(n), api.ErrArg, func(c *call) { c.strategy = n })
		}
	case 'm':
		for _, n := range []int{0, -1, api.MaxTerms + 1, math.MaxInt, math.MinInt} {
			add(fmt.Sprint(n), api.ErrArg, func(c *call) { c.most = n })
		}
	}
	return list
}

// expectError reports a function that does not return this error and no result.
func expectError(t *testing.T, what string, x function, c call, want api.Errno) {
	t.Helper()
	if got, e := x.run(c); e != want || got != empty(x.name) {
		t.Errorf("%s: %s: %.80s, error %d, expected %d", what, x.name, got, e, want)
	}
}

// The errors of an argument come before those of the arguments after it, whatever they are.
func TestErrors(t *testing.T) {
	for _, x := range functions() {
		c := goodCall(t)
		if got, e := x.run(c); e != api.OK || got == empty(x.name) {
			t.Errorf("%s: %s, error %d", x.name, got, e)
		}
		for i, arg := range x.args {
			for _, first := range faults(arg) {
				c := goodCall(t)
				c.r = plainRules(t)
				first.spoil(&c)
				expectError(t, first.name, x, c, first.e)
				for _, later := range x.args[i+1:] {
					for _, second := range faults(later) {
						both := c
						second.spoil(&both)
						expectError(t, first.name+", "+second.name, x, both, first.e)
					}
				}
			}
		}
	}
}

// A term, a derivation and a system that are valid need not fit: symbols that are marked or have another number of
// arguments are other symbols.
func TestValidArguments(t *testing.T) {
	r := system(t, "g(x) -> x f(x, x) -> x")
	for _, x := range []api.Term{v("g"), f("g"), f("g#", v("x")), f("f", v("x")), f("f#", f("g")), f("f", f("f"), f("g"))} {
		c := call{r: r, a: chain(x), b: chain(x), t: x, u: x, s: []api.Bind{{Name: "g", Term: x}}, strategy: api.StLeft, most: 1}
		want := map[string]string{
			"Terms": show(x), "Last": show(x), "Join": show(x) + " by ", "Inside": show(x) + " by ", "Instance": show(x) + " by ",
			"Follows": "true", "Explore": show(x) + " /  / true", "Path": show(x) + " by true", "Normals": show(x) + "true", "Longest": "0 true",
		}
		for _, fn := range functions() {
			if got, e := fn.run(c); got != want[fn.name] || e != api.OK {
				t.Error(fn.name, show(x), got, e)
			}
		}
	}
}

// No function depends on anything but its arguments, or changes them.
func TestAnyArguments(t *testing.T) {
	d := dice(2)
	for _, r := range systems(t) {
		for range 20 {
			x := d.term(4, "x", "z")
			c := call{r: r, a: d.chain(t, r, x, 4), t: d.term(3, "x"), s: []api.Bind{{Name: "x", Term: d.term(2, "z")}, {Name: "z", Term: f("b")}}}
			c.b = d.chain(t, r, last(t, r, c.a), 3)
			c.u, c.strategy, c.most = last(t, r, c.a), api.StAny+d.below(5), 1+d.below(20)
			before := showCall(c)
			for _, fn := range functions() {
				first, e := fn.run(c)
				again, e2 := fn.run(c)
				if first != again || e != e2 {
					t.Error("different results", before, fn.name, first, e, again, e2)
				}
				if showCall(c) != before {
					t.Error("an argument has changed", before, showCall(c), fn.name)
				}
			}
		}
	}
}

// showCall writes all arguments.
func showCall(c call) string {
	return fmt.Sprint(showSystem(c.r), showChain(c.a), showChain(c.b), show(c.t), show(c.u), c.pos, showSubst(c.s), c.strategy, c.most)
}

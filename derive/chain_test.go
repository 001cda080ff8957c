package derive_test

import (
	"slices"
	"testing"

	"dwindle/api"
	"dwindle/derive"
	"dwindle/term"
)

// expectChain reports a derivation that is not the expected one.
func expectChain(t *testing.T, what string, got api.Chain, e api.Errno, want api.Chain) {
	t.Helper()
	if e != api.OK || showChain(got) != showChain(want) {
		t.Errorf("%.80s: %.80s, error %d, expected %.80s", what, showChain(got), e, showChain(want))
	}
}

// expectNoChain reports an error that is not the expected one, or a derivation beside it.
func expectNoChain(t *testing.T, what string, got api.Chain, e, want api.Errno) {
	t.Helper()
	if e != want || showChain(got) != showChain(api.Chain{}) {
		t.Errorf("%.80s: %.80s, error %d, expected %d", what, showChain(got), e, want)
	}
}

// expectTerms reports results of Terms and Last that are not the expected ones.
func expectTerms(t *testing.T, r []api.Rule, c api.Chain, want []api.Term) {
	t.Helper()
	l, e := derive.Terms(r, c)
	if e != api.OK || showTerms(l) != showTerms(want) {
		t.Errorf("%.80s: %.80s: %.80s, error %d, expected %.80s", showSystem(r), showChain(c), showTerms(l), e, showTerms(want))
	}
	x, e := derive.Last(r, c)
	if e != api.OK || show(x) != show(want[len(want)-1]) {
		t.Errorf("%.80s: %.80s: %.80s, error %d, expected %.80s", showSystem(r), showChain(c), show(x), e, show(want[len(want)-1]))
	}
}

// P5.1

func TestTerms(t *testing.T) {
	for _, x := range []struct {
		r    string
		c    api.Chain
		want []string
	}{
		{"", chain(parse(t, "x")), []string{"x"}},
		{"a -> b", chain(f("a")), []string{"a"}},
		{"a -> b", chain(f("a"), step(0)), []string{"a", "b"}},
		{"a -> a", chain(f("a"), step(0), step(0)), []string{"a", "a", "a"}},
		{"a -> b a -> c b -> a", chain(parse(t, "g(a)"), step(0, 0), step(2, 0), step(1, 0)), []string{"g(a)", "g(b)", "g(a)", "g(c)"}},
		{"a -> b f(x, x) -> x", chain(parse(t, "f(a, a)"), step(0, 1), step(0, 0), step(1)), []string{"f(a, a)", "f(a, b)", "f(b, b)", "b"}},
		{"g(x) -> f(x, x) a -> b", chain(parse(t, "g(g(a))"), step(0), step(0, 1), step(1, 0, 0)), []string{
			"g(g(a))", "f(g(a), g(a))", "f(g(a), f(a, a))", "f(g(b), f(a, a))"}},
	} {
		var want []api.Term
		for _, s := range x.want {
			want = append(want, parse(t, s))
		}
		expectTerms(t, system(t, x.r), x.c, want)
	}
	marked := []api.Term{f("f#", f("a")), f("f#", f("b"))}
	expectTerms(t, system(t, "a -> b"), chain(marked[0], step(0, 0)), marked)
	expectTerms(t, nil, chain(f("a")), []api.Term{f("a")})
}

func TestTermsAll(t *testing.T) {
	d := dice(3)
	count := 0
	for _, r := range systems(t) {
		for range 50 {
			c := d.chain(t, r, d.term(4, "x", "z"), 6)
			count += len(c.Steps)
			expectTerms(t, r, c, termsOf(t, r, c))
		}
	}
	if count < 1000 {
		t.Error("too few steps", count)
	}
}

func TestTermsLimits(t *testing.T) {
	r := system(t, "a -> b b -> a")
	long := chain(f("a"), swaps(api.MaxSteps)...)
	expectTerms(t, r, long, termsOf(t, r, long))
	deep := tower(api.MaxDeep-1, f("a"))
	expectTerms(t, r, chain(deep, step(0, make([]int, api.MaxDeep-1)...)), []api.Term{deep, tower(api.MaxDeep-1, f("b"))})
	half := wide(1999, f("c"))
	double := []api.Term{f("d", half), f("e", half, half, f("c"))}
	expectTerms(t, plainRules(t), chain(double[0], step(3)), double)
	// A term on the way may not be too deep, even if the derivation would lead back to a small one.
	back := system(t, "a -> s(s(a)) s(s(x)) -> x")
	for n, want := range map[int]api.Errno{api.MaxDeep - 3: api.OK, api.MaxDeep - 2: api.ErrLimit, api.MaxDeep - 1: api.ErrLimit} {
		pos := make([]int, n)
		c := chain(tower(n, f("a")), step(0, pos...), step(1, pos...))
		if l, e := derive.Terms(back, c); e != want || (len(l) == 3) != (e == api.OK) {
			t.Error(n, len(l), e)
		}
		if x, e := derive.Last(back, c); e != want || e == api.OK && !term.Equal(x, c.Start) {
			t.Error(n, show(x), e)
		}
	}
}

// The first error in the order of the steps decides.
func TestTermsErrors(t *testing.T) {
	for _, x := range oddChains() {
		if l, e := derive.Terms(plainRules(t), x.c); e != x.e || len(l) > 0 {
			t.Error(x.name, showTerms(l), e)
		}
		if y, e := derive.Last(plainRules(t), x.c); e != x.e || !term.Equal(y, api.Term{}) {
			t.Error(x.name, show(y), e)
		}
	}
	if l, e := derive.Terms(nil, chain(f("a"), step(0))); e != api.ErrRange || len(l) > 0 {
		t.Error(l, e)
	}
}

func TestTermsMemory(t *testing.T) {
	r := system(t, "g(x) -> f(x, h(b)) b -> h(c)")
	c := chain(parse(t, "k(g(h(a)), h(b))"), step(0, 0), step(1, 1, 0), step(1, 0, 1, 0))
	before := showSystem(r) + showChain(c)
	l, _ := derive.Terms(r, c)
	for i := range l {
		rest := showTerms(l[i+1:])
		spoil(l[i])
		if showTerms(l[i+1:]) != rest {
			t.Error("two terms share memory", i, rest)
		}
	}
	for n := range len(c.Steps) + 1 {
		x, _ := derive.Last(r, chain(c.Start, c.Steps[:n]...))
		spoil(x)
	}
	if showSystem(r)+showChain(c) != before {
		t.Error("a result shares memory with an argument", showSystem(r), showChain(c))
	}
}

// P5.2

func TestJoin(t *testing.T) {
	r := system(t, "a -> b a -> c b -> a f(x, x) -> x")
	for _, x := range []struct{ a, b, want api.Chain }{
		{chain(f("a")), chain(f("a")), chain(f("a"))},
		{chain(v("x")), chain(v("x")), chain(v("x"))},
		{chain(f("a"), step(0)), chain(f("b")), chain(f("a"), step(0))},
		{chain(f("a")), chain(f("a"), step(1)), chain(f("a"), step(1))},
		{chain(f("b"), step(2)), chain(f("a"), step(0), step(2), step(1)), chain(f("b"), step(2), step(0), step(2), step(1))},
		{chain(parse(t, "f(b, a)"), step(2, 0)), chain(parse(t, "f(a, a)"), step(3), step(1)), chain(parse(t, "f(b, a)"), step(2, 0), step(3), step(1))},
	} {
		got, e := derive.Join(r, x.a, x.b)
		expectChain(t, showChain(x.a)+" and "+showChain(x.b), got, e, x.want)
	}
}

func TestJoinApart(t *testing.T) {
	r := system(t, "a -> b a -> c b -> a")
	for _, x := range [][2]api.Chain{
		{chain(f("a")), chain(f("b"))},
		{chain(f("a"), step(0)), chain(f("a"), step(0))},
		{chain(f("a"), step(0)), chain(f("c"))},
		{chain(f("b")), chain(f("a"), step(0))}, // the last terms are equal
		{chain(v("a")), chain(f("a"))},
		{chain(f("g", f("a")), step(0, 0)), chain(f("g", f("b"), f("b")))},
		{chain(f("g", v("b"))), chain(f("g", f("b")))},
		{chain(f("g#")), chain(f("g"))},
	} {
		got, e := derive.Join(r, x[0], x[1])
		expectNoChain(t, showChain(x[0])+" and "+showChain(x[1]), got, e, api.ErrStep)
	}
}

func TestJoinLimits(t *testing.T) {
	r := system(t, "a -> b b -> a")
	for _, n := range []int{0, 2, 2048, api.MaxSteps} {
		rest := swaps(api.MaxSteps - n + 2)
		got, e := derive.Join(r, chain(f("a"), swaps(n)...), chain(f("a"), rest[:api.MaxSteps-n]...))
		expectChain(t, "so many steps", got, e, chain(f("a"), swaps(api.MaxSteps)...))
		if n == 0 {
			continue
		}
		for more := 1; more < 3; more++ {
			got, e := derive.Join(r, chain(f("a"), swaps(n)...), chain(f("a"), rest[:api.MaxSteps-n+more]...))
			expectNoChain(t, "too many steps", got, e, api.ErrLimit)
		}
		got, e = derive.Join(r, chain(f("a"), swaps(n)...), chain(f("c")))
		expectNoChain(t, "apart", got, e, api.ErrStep)
	}
	c := chain(f("a"), swaps(api.MaxSteps-1)...)
	got, e := derive.Join(r, c, c)
	expectNoChain(t, "too many steps and apart", got, e, api.ErrStep)
}

func TestJoinMemory(t *testing.T) {
	r := system(t, "a -> b b -> a")
	a, b := chain(parse(t, "f(g(a), g(b))"), step(0, 0, 0)), chain(parse(t, "f(g(b), g(b))"), step(1, 1, 0), step(1, 0, 0))
	before := showChain(a) + showChain(b)
	c, _ := derive.Join(r, a, b)
	spoilApart(t, c)
	if showChain(a)+showChain(b) != before {
		t.Error("the result shares memory with an argument", showChain(a), showChain(b))
	}
}

// spoilApart overwrites all memory that a derivation holds, and reports positions that share memory.
func spoilApart(t *testing.T, c api.Chain) {
	t.Helper()
	for i, s := range c.Steps {
		rest := showSteps(c.Steps[i+1:])
		spoilPos(s.Pos)
		if showSteps(c.Steps[i+1:]) != rest {
			t.Error("two positions share memory", i, rest)
		}
	}
	spoilChain(c)
}

// P5.3

func TestInside(t *testing.T) {
	r := system(t, "a -> b a -> c b -> a f(x, x) -> x")
	c := chain(parse(t, "f(b, a)"), step(2, 0), step(3))
	for _, x := range []struct {
		c    api.Chain
		t    string
		pos  []int
		want api.Chain
	}{
		{c, "g(x, y)", []int{1}, chain(parse(t, "g(x, f(b, a))"), step(2, 1, 0), step(3, 1))},
		{c, "g(x, y)", []int{0}, chain(parse(t, "g(f(b, a), y)"), step(2, 0, 0), step(3, 0))},
		{c, "g(x, y)", nil, c},
		{c, "x", []int{}, c},
		{c, "g(a, h(a, h(a, a)))", []int{1, 1, 0}, chain(parse(t, "g(a, h(a, h(f(b, a), a)))"), step(2, 1, 1, 0, 0), step(3, 1, 1, 0))},
		{c, "g(a, h(f(b, a), x))", []int{1}, chain(parse(t, "g(a, f(b, a))"), step(2, 1, 0), step(3, 1))},
		{chain(v("z")), "g(x, y)", []int{0}, chain(parse(t, "g(z, y)"))},
		{chain(f("a"), step(0), step(2)), "f(b, b)", []int{1}, chain(parse(t, "f(b, a)"), step(0, 1), step(2, 1))},
	} {
		got, e := derive.Inside(r, x.c, parse(t, x.t), x.pos)
		expectChain(t, showChain(x.c)+" in "+x.t, got, e, x.want)
	}
	// The symbols of the term and of the derivation need not fit.
	got, e := derive.Inside(r, chain(f("a"), step(0)), f("f#", f("f", f("a"))), []int{0, 0})
	expectChain(t, "marked", got, e, chain(f("f#", f("f", f("a"))), step(0, 0, 0)))
}

func TestInsideLimits(t *testing.T) {
	r := system(t, "a -> s(s(a)) s(s(x)) -> b d(x) -> e(x, x) e(x, x) -> b")
	grow := chain(f("a"), step(0), step(1))
	for _, n := range []int{api.MaxDeep - 4, api.MaxDeep - 3, api.MaxDeep - 2, api.MaxDeep - 1} {
		pos := make([]int, n)
		got, e := derive.Inside(r, grow, tower(n, v("x")), pos)
		if n+3 <= api.MaxDeep {
			expectChain(t, "deep", got, e, chain(tower(n, f("a")), step(0, pos...), step(1, pos...)))
		} else {
			expectNoChain(t, "too deep", got, e, api.ErrLimit)
		}
	}
	got, e := derive.Inside(r, chain(f("s", f("b"))), tower(api.MaxDeep-1, v("x")), make([]int, api.MaxDeep-1))
	expectNoChain(t, "first term too deep", got, e, api.ErrLimit)
	double := chain(f("d", wide(1000, f("c"))), step(2), step(3))
	for n, want := range map[int]api.Errno{1998: api.OK, 1999: api.ErrLimit, 2997: api.ErrLimit, 2998: api.ErrLimit} {
		got, e := derive.Inside(r, double, f("h", v("x"), wide(n, v("y"))), []int{0})
		if e != want || (len(got.Steps) == 2) != (e == api.OK) || e != api.OK && !term.Equal(got.Start, api.Term{}) {
			t.Error(n, e)
		}
	}
	// What is replaced does not count.
	got, e = derive.Inside(r, double, f("h", wide(3000, v("x")), v("y")), []int{0})
	expectChain(t, "replaced", got, e, chain(f("h", double.Start, v("y")), step(2, 0), step(3, 0)))
	long := chain(f("a"), swaps(api.MaxSteps)...)
	got, e = derive.Inside(system(t, "a -> b b -> a"), long, f("g", v("x")), []int{0})
	if len(got.Steps) != api.MaxSteps || e != api.OK {
		t.Error(len(got.Steps), e)
	}
}

func TestInsideMemory(t *testing.T) {
	r := system(t, "a -> b b -> a")
	c, x, pos := chain(parse(t, "f(g(a), g(b))"), step(0, 0, 0), step(1, 1, 0), step(1, 0, 0)), parse(t, "h(k(x), k(k(y)), k(a))"), []int{1, 0}
	before := showCall(call{a: c, t: x, pos: pos})
	for _, at := range [][]int{pos, nil} {
		for _, n := range []int{0, 3} {
			got, _ := derive.Inside(r, chain(c.Start, c.Steps[:n]...), x, at)
			spoilApart(t, got)
		}
	}
	if showCall(call{a: c, t: x, pos: pos}) != before {
		t.Error("the result shares memory with an argument", showChain(c), show(x), pos)
	}
}

func TestInstance(t *testing.T) {
	r := system(t, "f(x) -> g(x, x) g(x, y) -> x a -> b")
	for _, x := range []struct {
		c    api.Chain
		s    []api.Bind
		want api.Chain
	}{
		{chain(parse(t, "f(x)"), step(0)), []api.Bind{{Name: "x", Term: parse(t, "f(y)")}}, chain(parse(t, "f(f(y))"), step(0))},
		{chain(parse(t, "f(x)"), step(0), step(1)), nil, chain(parse(t, "f(x)"), step(0), step(1))},
		{chain(parse(t, "g(x, y)")), []api.Bind{{Name: "x", Term: v("y")}, {Name: "y", Term: v("x")}}, chain(parse(t, "g(y, x)"))},
		{chain(parse(t, "g(x, f(y))"), step(0, 1), step(1)), []api.Bind{{Name: "x", Term: f("a")}, {Name: "z", Term: f("b")}},
			chain(parse(t, "g(a, f(y))"), step(0, 1), step(1))},
		{chain(v("x")), []api.Bind{{Name: "x", Term: f("a#", f("b"))}}, chain(f("a#", f("b")))},
		{chain(f("x", v("x"), f("a")), step(2, 1)), []api.Bind{{Name: "x", Term: f("a")}}, chain(f("x", f("a"), f("a")), step(2, 1))},
	} {
		got, e := derive.Instance(r, x.c, x.s)
		expectChain(t, showChain(x.c)+" with "+showSubst(x.s), got, e, x.want)
	}
}

func TestInstanceLimits(t *testing.T) {
	r := system(t, "d(x) -> e(x, x) e(x, x) -> b s(x) -> s(s(x)) s(s(x)) -> b")
	for n, want := range map[int]api.Errno{1999: api.OK, 2000: api.ErrLimit, 3998: api.ErrLimit, api.MaxSize: api.ErrLimit} {
		c, s := chain(parse(t, "d(x)"), step(0), step(1)), []api.Bind{{Name: "x", Term: wide(n, f("c"))}}
		got, e := derive.Instance(r, c, s)
		if e == api.OK && want == api.OK {
			expectChain(t, "large", got, e, chain(f("d", s[0].Term), step(0), step(1)))
		} else {
			expectNoChain(t, "too large", got, e, want)
		}
	}
	for n, want := range map[int]api.Errno{api.MaxDeep - 2: api.OK, api.MaxDeep - 1: api.ErrLimit, api.MaxDeep: api.ErrLimit} {
		c, s := chain(parse(t, "s(x)"), step(2), step(3)), []api.Bind{{Name: "x", Term: tower(n-1, f("c"))}}
		got, e := derive.Instance(r, c, s)
		if e == api.OK && want == api.OK {
			expectChain(t, "deep", got, e, chain(tower(n, f("c")), step(2), step(3)))
		} else {
			expectNoChain(t, "too deep", got, e, want)
		}
	}
	// A variable that does not occur may be replaced by any valid term.
	large := []api.Bind{{Name: "y", Term: wide(api.MaxSize, f("c"))}, {Name: "z", Term: tower(api.MaxDeep-1, f("c"))}}
	got, e := derive.Instance(r, chain(parse(t, "d(x)"), step(0)), large)
	expectChain(t, "other variables", got, e, chain(parse(t, "d(x)"), step(0)))
	long := chain(f("g", f("a"), v("x")))
	for i := range api.MaxSteps {
		long.Steps = append(long.Steps, step(i%2, 0))
	}
	got, e = derive.Instance(system(t, "a -> b b -> a"), long, []api.Bind{{Name: "x", Term: f("c")}})
	expectChain(t, "long", got, e, chain(f("g", f("a"), f("c")), long.Steps...))
}

func TestInstanceMemory(t *testing.T) {
	r := system(t, "a -> b b -> a")
	c := chain(parse(t, "f(g(a), g(x), g(x))"), step(0, 0, 0), step(1, 0, 0))
	for _, s := range [][]api.Bind{nil, {{Name: "x", Term: parse(t, "h(g(a))")}}} {
		before := showCall(call{a: c, s: s})
		got, _ := derive.Instance(r, c, s)
		spoilApart(t, got)
		if showCall(call{a: c, s: s}) != before {
			t.Error("the result shares memory with an argument", showChain(c), showSubst(s))
		}
	}
}

// P5.4

// expectFollows reports a result of Follows that is not the expected one.
func expectFollows(t *testing.T, r []api.Rule, c api.Chain, strategy int, want bool) {
	t.Helper()
	if ok, e := derive.Follows(r, c, strategy); ok != want || e != api.OK {
		t.Errorf("%.80s: %.80s under %d: %v, error %d", showSystem(r), showChain(c), strategy, ok, e)
	}
}

func TestFollows(t *testing.T) {
	r := system(t, "a -> b f(x, x) -> x a -> c g(x) -> x")
	x := parse(t, "f(a, a)")
	for _, c := range []struct {
		c    api.Chain
		want [5]bool // under the strategies in their order
	}{
		{chain(x), [5]bool{true, true, true, true, true}},
		{chain(v("x")), [5]bool{true, true, true, true, true}},
		{chain(x, step(1)), [5]bool{true, false, true, false, true}},
		{chain(x, step(0, 0)), [5]bool{true, true, false, true, false}},
		{chain(x, step(2, 0)), [5]bool{true, true, false, true, false}},
		{chain(x, step(0, 1)), [5]bool{true, true, false, false, false}},
		{chain(x, step(0, 0), step(0, 1), step(1)), [5]bool{true, true, false, true, false}},
		{chain(x, step(1), step(2)), [5]bool{true, false, true, false, true}},
		{chain(x, step(0, 1), step(0, 0), step(1)), [5]bool{true, true, false, false, false}},
		{chain(x, step(0, 1), step(2, 0)), [5]bool{true, true, false, false, false}},
		{chain(parse(t, "f(a, c)"), step(2, 0), step(1)), [5]bool{true, true, true, true, true}},
		{chain(parse(t, "f(a, g(a))"), step(0, 1, 0), step(0, 0)), [5]bool{true, true, false, false, false}},
		{chain(parse(t, "f(a, g(a))"), step(0, 0), step(3, 1)), [5]bool{true, false, true, false, true}},
		{chain(parse(t, "f(a, g(a))"), step(3, 1), step(1)), [5]bool{true, false, true, false, false}},
		{chain(parse(t, "f(a, g(b))"), step(3, 1), step(2, 0)), [5]bool{true, true, true, false, false}},
	} {
		for i, strategy := range strategies() {
			expectFollows(t, r, c.c, strategy, c.want[i])
		}
	}
}

func TestFollowsAll(t *testing.T) {
	d := dice(4)
	count := map[bool]int{}
	for _, r := range systems(t) {
		for range 40 {
			c := d.chain(t, r, d.term(5, "x", "z"), 1+d.below(3))
			terms := termsOf(t, r, c)
			for _, strategy := range strategies() {
				want := true
				for i, s := range c.Steps {
					same := func(o api.Step) bool { return o.Rule == s.Rule && slices.Equal(o.Pos, s.Pos) }
					want = want && slices.ContainsFunc(redexes(t, r, terms[i], strategy), same)
				}
				count[want]++
				expectFollows(t, r, c, strategy, want)
			}
		}
	}
	if count[true] < 400 || count[false] < 400 {
		t.Error("too few of a kind", count)
	}
}

// Every derivation follows StAny, however long it is, and one odd step at the end is found.
func TestFollowsLong(t *testing.T) {
	r := system(t, "a -> b b -> a")
	long := chain(f("f", f("a"), f("a")))
	for i := range api.MaxSteps - 1 {
		long.Steps = append(long.Steps, step(i%2, 0))
	}
	for _, strategy := range strategies() {
		expectFollows(t, r, long, strategy, true)
		expectFollows(t, r, chain(long.Start, append(slices.Clone(long.Steps), step(0, 1))...), strategy, strategy < api.StLeft)
	}
}

// A strategy that is no strategy is an error also where a step does not follow, or there is none.
func TestFollowsErrors(t *testing.T) {
	r := system(t, "a -> b f(x, x) -> x")
	for _, strategy := range notStrategies() {
		for _, c := range []api.Chain{chain(v("x")), chain(parse(t, "f(a, a)"), step(1), step(0)), chain(parse(t, "f(a, a)"), step(0, 1))} {
			if ok, e := derive.Follows(r, c, strategy); ok || e != api.ErrArg {
				t.Error(showChain(c), strategy, ok, e)
			}
		}
	}
	// A step that is not possible is an error also after one that does not follow the strategy.
	c := chain(parse(t, "f(a, a)"), step(1), step(0), step(0))
	if ok, e := derive.Follows(r, c, api.StInner); ok || e != api.ErrStep {
		t.Error(ok, e)
	}
}

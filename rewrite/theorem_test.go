package rewrite_test

import (
	"fmt"
	"slices"
	"testing"

	"dwindle/api"
	"dwindle/rewrite"
	"dwindle/term"
)

// P4.7

func TestClosedUnderSubstitutions(t *testing.T) {
	d := dice(7)
	count := 0
	for _, r := range systems(t) {
		for range 40 {
			x := d.term(4, "x", "z")
			s := []api.Bind{{Name: "x", Term: d.term(3, "z", "y")}, {Name: "z", Term: d.term(3, "x")}}
			inside := func(x api.Term) api.Term {
				y, e := term.Apply(s, x)
				if e != api.OK {
					t.Fatal(show(x), e)
				}
				return y
			}
			steps, _ := rewrite.Redexes(r, x, api.StAny)
			for _, st := range steps {
				count++
				expectStep(t, r, inside(x), st, inside(do(t, r, x, st)))
			}
		}
	}
	if count < 500 {
		t.Error("too few steps", count)
	}
}

func TestClosedUnderContexts(t *testing.T) {
	d := dice(8)
	count := 0
	for _, r := range systems(t) {
		for range 20 {
			x, context := d.term(3, "x"), d.term(4, "x", "y")
			positions, _ := term.Positions(context)
			steps, _ := rewrite.Redexes(r, x, api.StAny)
			for _, pos := range positions {
				for _, s := range steps {
					count++
					around, _ := term.Put(context, pos, x)
					want, _ := term.Put(context, pos, do(t, r, x, s))
					expectStep(t, r, around, step(s.Rule, slices.Concat(pos, s.Pos)...), want)
				}
			}
		}
	}
	if count < 500 {
		t.Error("too few steps", count)
	}
}

// P4.8

// orders returns all orders of steps.
func orders(l []api.Step) [][]api.Step {
	if len(l) == 0 {
		return [][]api.Step{nil}
	}
	var list [][]api.Step
	for i, s := range l {
		rest := slices.Concat(l[:i], l[i+1:])
		for _, o := range orders(rest) {
			list = append(list, append([]api.Step{s}, o...))
		}
	}
	return list
}

// parallelSteps returns at most four steps at parallel positions.
func (d *dice) parallelSteps(t *testing.T, r []api.Rule, x api.Term) []api.Step {
	var list []api.Step
	all := stepsOf(t, r, x)
	for range 3 * len(all) {
		s := all[d.below(len(all))]
		meets := func(o api.Step) bool { return isPrefix(s.Pos, o.Pos) || isPrefix(o.Pos, s.Pos) }
		if len(list) < 4 && !slices.ContainsFunc(list, meets) {
			list = append(list, s)
		}
	}
	return list
}

func TestParallelTheorem(t *testing.T) {
	d := dice(9)
	count := 0
	for _, r := range systems(t) {
		for range 30 {
			x := f("f", d.term(5, "x", "z"), d.term(5, "x"))
			l := d.parallelSteps(t, r, x)
			for i, o := range orders(l) {
				y := x
				for _, s := range o {
					y = do(t, r, y, s)
				}
				expectParallel(t, r, x, l, y)
				expectParallel(t, r, x, o, y)
				if i > 1 {
					count++
				}
			}
		}
	}
	if count < 1000 {
		t.Error("too few orders", count)
	}
}

// Any two steps are accepted if and only if their positions are parallel.
func TestParallelPairs(t *testing.T) {
	d := dice(10)
	for _, r := range systems(t) {
		for range 10 {
			x := d.term(5, "x")
			l := stepsOf(t, r, x)
			for _, a := range l {
				for _, b := range l {
					pair := []api.Step{a, b}
					if isPrefix(a.Pos, b.Pos) || isPrefix(b.Pos, a.Pos) {
						expectNoParallel(t, r, x, pair, api.ErrStep)
					} else {
						expectParallel(t, r, x, pair, do(t, r, do(t, r, x, a), b))
					}
				}
			}
		}
	}
}

// P4.9

func TestStrategies(t *testing.T) {
	d := dice(11)
	for _, r := range systems(t) {
		for range 60 {
			x := d.term(4, "x", "z")
			normal, e := rewrite.IsNormal(r, x)
			for _, strategy := range strategies() {
				if l, e2 := rewrite.Redexes(r, x, strategy); (len(l) == 0) != normal || e != api.OK || e2 != api.OK {
					t.Error(showSystem(r), show(x), strategy, normal, showSteps(l), e, e2)
				}
			}
			l, e := rewrite.Reducts(r, x)
			if (len(l) == 0) != normal || e != api.OK {
				t.Error(showSystem(r), show(x), normal, showTerms(l), e)
			}
		}
	}
}

// P1, P2 and the rules

// answer is the result of one function, as a string, with its error.
type answer struct {
	function, result string
	e                api.Errno
}

// answers returns the results of all functions, with arguments beside r and x that are not valid if spoilt is true.
func answers(r []api.Rule, x api.Term, spoilt bool) []answer {
	strategy, most, s := api.StLeft, 3, step(0)
	if spoilt {
		strategy, most, s = 9, -1, step(-1, -1)
	}
	l, e := rewrite.Redexes(r, x, strategy)
	list := []answer{{"Redexes", showSteps(l), e}}
	y, e := rewrite.Step(r, x, s)
	list = append(list, answer{"Step", show(y), e})
	b, e := rewrite.Subst(r, x, s)
	list = append(list, answer{"Subst", showSubst(b), e})
	ok, e := rewrite.IsNormal(r, x)
	list = append(list, answer{"IsNormal", fmt.Sprint(ok), e})
	c, y, ok, e := rewrite.Normalize(r, x, strategy, most)
	list = append(list, answer{"Normalize", fmt.Sprint(show(c.Start), showSteps(c.Steps), show(y), ok), e})
	y, e = rewrite.Parallel(r, x, []api.Step{s})
	list = append(list, answer{"Parallel", show(y), e})
	reducts, e := rewrite.Reducts(r, x)
	return append(list, answer{"Reducts", showTerms(reducts), e})
}

// expectErrors reports functions that do not return this error and no result.
func expectErrors(t *testing.T, what string, r []api.Rule, x api.Term, want api.Errno) {
	t.Helper()
	for _, spoilt := range []bool{false, true} {
		for _, a := range answers(r, x, spoilt) {
			empty := map[string]string{"IsNormal": "false", "Normalize": "false"}[a.function]
			if a.e != want || a.result != empty {
				t.Errorf("%s: %s: %.80s, error %d, expected %d", what, a.function, a.result, a.e, want)
			}
		}
	}
}

// The errors of the system come first, then those of the term, then the others.
func TestSystemErrors(t *testing.T) {
	for _, r := range oddSystems() {
		expectErrors(t, r.name, r.r, f("a"), r.e)
		for _, x := range oddTerms() {
			expectErrors(t, r.name+" and "+x.name, r.r, x.t, r.e)
		}
	}
}

func TestTermErrors(t *testing.T) {
	for _, x := range oddTerms() {
		expectErrors(t, x.name, system(t, "a -> b f(x, x) -> x"), x.t, x.e)
		expectErrors(t, x.name, nil, x.t, x.e)
	}
}

// A valid system and a valid term need not fit: symbols that are marked or have another arity are other symbols.
func TestValidArguments(t *testing.T) {
	r := system(t, "g(x) -> x f(x, x) -> x")
	for _, x := range []api.Term{v("g"), f("g"), f("g#", v("x")), f("f", v("x")), f("f#", f("g")), f("f", f("f"), f("g"))} {
		want := []answer{
			{"Redexes", "", api.OK}, {"Step", "", api.ErrStep}, {"Subst", "", api.ErrStep}, {"IsNormal", "true", api.OK},
			{"Normalize", show(x) + show(x) + "true", api.OK}, {"Parallel", "", api.ErrStep}, {"Reducts", "", api.OK},
		}
		if got := answers(r, x, false); !slices.Equal(got, want) {
			t.Error(got, want)
		}
	}
}

// No function depends on anything but its arguments, or changes them.
func TestAnyArguments(t *testing.T) {
	d := dice(12)
	for _, r := range systems(t) {
		for range 30 {
			x := d.term(5, "x", "z")
			inR, inX := showSystem(r), show(x)
			first := answers(r, x, false)
			if again := answers(r, x, false); !slices.Equal(first, again) {
				t.Error("different results", inR, inX, first, again)
			}
			if showSystem(r) != inR || show(x) != inX {
				t.Error("an argument has changed", inR, inX, showSystem(r), show(x))
			}
		}
	}
}

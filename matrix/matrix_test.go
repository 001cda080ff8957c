package matrix_test

import (
	"fmt"
	"math"
	"slices"
	"strings"
	"testing"

	"dwindle/api"
	"dwindle/matrix"
)

// P9.1

func TestCheck(t *testing.T) {
	long := strings.Repeat("f", api.MaxName-1)
	for dim := 1; dim <= api.MaxDim; dim++ {
		vec, high := make([]uint64, dim), slices.Repeat([]uint64{api.MaxCoef}, dim)
		most := slices.Repeat([][][]uint64{filled(dim, dim, api.MaxCoef)}, api.MaxArity)
		var names []api.Matrix
		for _, name := range []string{"'", "0", "B", "_", "a", "a#", "a'", "aa", "b#", long + "#", long + "f"} {
			names = append(names, api.Matrix{Name: name, Vec: vec})
		}
		for _, l := range [][]api.Matrix{
			nil,
			{},
			{{Name: "a", Vec: vec}},
			{{Name: "a", Vec: high}},
			{{Name: "f", Vec: vec, Mats: [][][]uint64{filled(dim, dim, 0)}}},
			{{Name: "f", Vec: high, Mats: most}},
			{{Name: "a", Vec: high}, {Name: "f", Vec: vec, Mats: most[:3]}, {Name: "g", Vec: high, Mats: most[:1]}},
			names,
			symbols(dim, api.MaxSymbols).list,
		} {
			if e := matrix.Check(dim, l); e != api.OK {
				t.Error(dim, l, e)
			}
			for other := 1; other <= api.MaxDim; other++ {
				if e := matrix.Check(other, l); other != dim && len(l) > 0 && e != api.ErrForm {
					t.Error("another dimension", other, l, e)
				}
			}
		}
	}
}

func TestCheckErrors(t *testing.T) {
	for dim := 1; dim <= api.MaxDim; dim++ {
		for _, x := range oddInterpretations(dim) {
			if e := matrix.Check(x.dim, x.list); e != x.e {
				t.Errorf("%s: error %d, expected %d", x.name, e, x.e)
			}
		}
	}
}

// P9.2

// expectOf reports a linear function other than that of a string such as "0,1 1,1/0,0", or other variables.
func (l interpretation) expectOf(t *testing.T, x api.Term, vars, want string) {
	t.Helper()
	names, m, e := matrix.Of(l.dim, l.list, x)
	if strings.Join(names, " ") != vars || !alike(m, entry(t, want)) || e != api.OK {
		t.Error(show(x), names, m, e, "expected", vars, want)
	}
	l.expectSame(t, x)
}

func TestOf(t *testing.T) {
	l := matrices(t, "a 1,0; b 0,2; f 0,1 1,1/0,0; g 1,2 1,0/0,1 2,3/5,7; k 3,4 0,0/0,0; r 0,0 0,1/1,0; s 1,0 1,0/0,1")
	for _, x := range []struct{ t, vars, want string }{
		{"a", "", "1,0"},
		{"b", "", "0,2"},
		{"x", "x", "0,0 1,0/0,1"},
		{"y", "y", "0,0 1,0/0,1"},
		{"f(a)", "", "1,1"},
		{"f(x)", "x", "0,1 1,1/0,0"},
		{"f(f(x))", "x", "1,1 1,1/0,0"},
		{"s(s(x))", "x", "2,0 1,0/0,1"},
		{"r(f(x))", "x", "1,0 0,0/1,1"},
		{"f(r(x))", "x", "0,1 1,1/0,0"},
		{"g(a, b)", "", "8,16"},
		{"g(x, y)", "x y", "1,2 1,0/0,1 2,3/5,7"},
		{"g(y, x)", "x y", "1,2 2,3/5,7 1,0/0,1"},
		{"g(x, x)", "x", "1,2 3,3/5,8"},
		{"g(r(x), f(y))", "x y", "4,9 0,1/1,0 2,2/5,5"},
		{"g(z, g(x, y))", "x y z", "9,21 2,3/5,7 19,27/45,64 1,0/0,1"},
		// symbols that are not listed
		{"c", "", "0,0"},
		{"h(x)", "x", "0,0 1,0/0,1"},
		{"h(x, x, y, c)", "x y", "0,0 2,0/0,2 1,0/0,1"},
		{"h(a, s(x), h(b))", "x", "2,2 1,0/0,1"},
		{"h(y, x, y, x, x, x, x, y)", "x y", "0,0 5,0/0,5 3,0/0,3"},
		// arguments that do not matter
		{"k(a)", "", "3,4"},
		{"k(x)", "x", "3,4 0,0/0,0"},
		{"k(z)", "z", "3,4 0,0/0,0"},
		{"g(k(x), y)", "x y", "4,6 0,0/0,0 2,3/5,7"},
		{"g(y, k(z))", "y z", "19,45 1,0/0,1 0,0/0,0"},
		{"h(k(x), x, k(x))", "x", "6,8 1,0/0,1"},
	} {
		l.expectOf(t, parse(t, x.t), x.vars, x.want)
	}
}

func TestOfDimensions(t *testing.T) {
	for _, x := range []struct{ l, t, vars, want string }{
		{"add 1 2 1; s 1 1", "add(s(x), y)", "x y", "3 2 1"},
		{"add 1 2 1; s 1 1", "s(add(y, x))", "x y", "2 1 2"},
		{"add 1 2 1; s 1 1", "add(x, add(x, s(s(c))))", "x", "4 4"},
		{"add 1 2 1; s 1 1", "c", "", "0"},
		{"p 0,0,1 0,1,0/0,0,1/1,0,0", "p(x)", "x", "0,0,1 0,1,0/0,0,1/1,0,0"},
		{"p 0,0,1 0,1,0/0,0,1/1,0,0", "p(p(x))", "x", "0,1,1 0,0,1/1,0,0/0,1,0"},
		{"p 0,0,1 0,1,0/0,0,1/1,0,0", "p(p(p(x)))", "x", "1,1,1 1,0,0/0,1,0/0,0,1"},
		{"p 0,0,1 0,1,0/0,0,1/1,0,0", "h(p(x), y, x)", "x y", "0,0,1 1,1,0/0,1,1/1,0,1 1,0,0/0,1,0/0,0,1"},
		{"n 1,2,3,4 0,1,0,0/0,0,1,0/0,0,0,1/0,0,0,0", "n(n(x))", "x", "3,5,7,4 0,0,1,0/0,0,0,1/0,0,0,0/0,0,0,0"},
		{"n 1,2,3,4 0,1,0,0/0,0,1,0/0,0,0,1/0,0,0,0", "n(n(n(n(x))))", "x", "10,9,7,4 0,0,0,0/0,0,0,0/0,0,0,0/0,0,0,0"},
		{"n 1,2,3,4 0,1,0,0/0,0,1,0/0,0,0,1/0,0,0,0", "h(x, n(y))", "x y", "1,2,3,4 1,0,0,0/0,1,0,0/0,0,1,0/0,0,0,1 0,1,0,0/0,0,1,0/0,0,0,1/0,0,0,0"},
	} {
		matrices(t, x.l).expectOf(t, parse(t, x.t), x.vars, x.want)
	}
}

// A variable and a constant of the same name are different, and so are a symbol and its marked form.
func TestOfNames(t *testing.T) {
	l := matrices(t, "x 5,1; x# 7,0; y 1,0 2,0/0,3")
	for _, x := range []struct {
		t          api.Term
		vars, want string
	}{
		{f("h", v("x"), f("x"), f("x#")), "x", "12,1 1,0/0,1"},
		{f("h", v("B"), v("a"), v("_"), f("y", v("a"))), "B _ a", "1,0 1,0/0,1 1,0/0,1 3,0/0,4"},
		{f("y#", v("y")), "y", "0,0 1,0/0,1"},
		{f("y", v("y")), "y", "1,0 2,0/0,3"},
		{f("h", f("x"), f("h", f("x"), f("x"))), "", "15,3"},
	} {
		l.expectOf(t, x.t, x.vars, x.want)
	}
}

func TestValue(t *testing.T) {
	l := matrices(t, "a 1,0; b 0,2; f 0,1 1,1/0,0; g 1,2 1,0/0,1 2,3/5,7; k 3,4 0,0/0,0")
	for _, x := range []struct{ t, want string }{
		{"x", "0,0"}, {"a", "1,0"}, {"c", "0,0"}, {"f(x)", "0,1"}, {"f(f(a))", "2,1"}, {"f(f(x))", "1,1"}, {"f(b)", "2,1"}, {"g(a, b)", "8,16"}, {"g(b, a)", "3,9"}, {"g(x, y)", "1,2"},
		{"g(x, f(y))", "4,9"}, {"k(b)", "3,4"}, {"k(x)", "3,4"}, {"h(a, x, b, a)", "2,2"}, {"h(f(a), f(x), y)", "1,2"}, {"g(a, k(y))", "20,45"},
	} {
		n, e := matrix.Value(l.dim, l.list, parse(t, x.t))
		if !slices.Equal(n, numbers(t, x.want)) || e != api.OK {
			t.Error(x, n, e)
		}
		l.expectSame(t, parse(t, x.t))
	}
}

// Many terms under many small interpretations, and under those that lead to the limits.
func TestOfMany(t *testing.T) {
	d := dice(1)
	count := map[api.Errno]int{}
	for i := range 6000 {
		dim := 1 + i%api.MaxDim
		l := d.interpretation(dim, []int{2, 3, 5, 1000, api.MaxCoef + 1}[d.below(5)])
		count[l.expectSame(t, d.term(4, "x", "y", "z"))]++
		if d.below(5) == 0 && len(l.list) > 0 { // matrices of another number of arguments
			i := d.below(len(l.list))
			l.list[i] = d.entry(l.list[i].Name, dim, d.below(4), 3)
			count[l.expectSame(t, d.term(3, "x", "y"))]++
		}
	}
	if count[api.OK] < 4000 || count[api.ErrLimit] < 200 || count[api.ErrOrder] < 200 {
		t.Error("too few of a kind", count)
	}
}

// scale returns an interpretation of a symbol that multiplies its argument by n.
func scale(dim int, name string, n uint64) api.Matrix {
	x := api.Matrix{Name: name, Vec: make([]uint64, dim), Mats: [][][]uint64{filled(dim, dim, 0)}}
	for i := range dim {
		x.Mats[0][i][i] = n
	}
	return x
}

// scales is an interpretation of symbols that multiply their arguments: m by MaxCoef, and others by small numbers.
func scales(dim int) []api.Matrix {
	return []api.Matrix{scale(dim, "five", 5), scale(dim, "four", 4), scale(dim, "m", api.MaxCoef), scale(dim, "two", 2), scale(dim, "z", 0)}
}

// limitCases returns terms with a term of which one element is 1 and all others are 0, and their errors.
func limitCases(one api.Term) []oddTerm {
	large := tower(3, "m", one) // 2 to the power 60
	top := f("four", large)     // MaxValue
	return []oddTerm{
		{"largest element", top, api.OK},
		{"sum of halves", f("h", f("two", large), f("two", large)), api.OK},
		{"sum of quarters", f("h", large, large, large, large), api.OK},
		{"product with two twice", f("two", f("two", large)), api.OK},
		{"largest element times zero", f("z", top), api.OK},
		{"sum of the largest one and nothing", f("h", f("z", top), top, f("c")), api.OK},
		{"sum larger by one", f("h", top, one), api.ErrLimit},
		{"sum larger by one, the other way round", f("h", one, top), api.ErrLimit},
		{"sum of two large ones", f("h", top, top), api.ErrLimit},
		{"sum of four large ones", f("h", top, top, top, top), api.ErrLimit},
		{"sum of eight large ones", f("h", slices.Repeat([]api.Term{top}, 8)...), api.ErrLimit},
		{"product with five", f("five", large), api.ErrLimit},
		{"product 2 to the power 63", f("two", top), api.ErrLimit},
		{"product 2 to the power 64", f("four", top), api.ErrLimit},
		{"product 2 to the power 82", f("m", top), api.ErrLimit},
		{"limits of an argument that does not matter", f("z", f("two", top)), api.ErrLimit},
		{"limits of a sum that does not matter", f("z", f("h", v("y"), f("h", top, one))), api.ErrLimit},
	}
}

// Each element of a vector and of a matrix has the limit.
func TestLimits(t *testing.T) {
	for dim := 1; dim <= api.MaxDim; dim++ {
		for i := range dim {
			unit := api.Matrix{Name: "u", Vec: make([]uint64, dim)}
			unit.Vec[i] = 1
			l := interpretation{dim, slices.Insert(scales(dim), 4, unit)}
			for _, x := range limitCases(f("u")) {
				l.expectError(t, x)
			}
			for j := range dim {
				element := api.Matrix{Name: "e", Vec: make([]uint64, dim), Mats: [][][]uint64{filled(dim, dim, 0)}}
				element.Mats[0][i][j] = 1
				l := interpretation{dim, append([]api.Matrix{element}, scales(dim)...)}
				for _, x := range limitCases(f("e", v("x"))) {
					l.expectError(t, x)
				}
			}
		}
	}
}

// expectError reports an error of Of or Value other than that of a term.
func (l interpretation) expectError(t *testing.T, x oddTerm) {
	t.Helper()
	names, m, e := matrix.Of(l.dim, l.list, x.t)
	value, e2 := matrix.Value(l.dim, l.list, x.t)
	if e != x.e || e2 != x.e || e != api.OK && (len(names) > 0 || !alike(m, api.Matrix{}) || len(value) > 0) {
		t.Error(x.name, l.dim, names, m, e, value, e2)
	}
	if want := l.expectSame(t, x.t); want != x.e {
		t.Error("wrong case", x.name, want)
	}
}

// The sums of products have the limit, and so have their parts.
func TestLimitsOfProducts(t *testing.T) {
	for dim := 1; dim <= api.MaxDim; dim++ {
		all := api.Matrix{Name: "all", Vec: make([]uint64, dim), Mats: [][][]uint64{filled(dim, dim, 1)}}
		ones := api.Matrix{Name: "ones", Vec: slices.Repeat([]uint64{1}, dim)}
		l := interpretation{dim, append([]api.Matrix{all}, slices.Insert(scales(dim), 3, ones)...)}
		for _, one := range []api.Term{f("ones"), v("x"), f("all", v("x")), f("h", v("x"), f("ones"))} {
			large := tower(3, "m", one)
			for i, x := range []api.Term{large, f("two", large), f("four", large), f("h", large, f("two", large))} {
				l.expectSame(t, f("all", x))
				factor := []int{1, 2, 4, 3}[i]
				if one.Name == "ones" {
					want := api.OK
					if factor*dim > 4 {
						want = api.ErrLimit
					}
					l.expectError(t, oddTerm{fmt.Sprint("sum of elements ", factor), f("all", x), want})
				}
			}
		}
	}
}

// A sum of products is too large also if it is 2 to the power 64, or if only one of its products is.
func TestLimitsOfSums(t *testing.T) {
	for _, x := range []struct {
		rows, vec string
		want      api.Errno
	}{
		{"1,3/1,0", "4,4", api.ErrLimit}, {"3,1/0,1", "4,4", api.ErrLimit}, {"0,1/1,3", "4,4", api.ErrLimit}, {"4,0/0,0", "4,0", api.ErrLimit}, {"1,4/0,0", "0,4", api.ErrLimit}, {"4,1/0,0", "4,1", api.ErrLimit},
		{"1,3/0,1", "1,1", api.OK}, {"3,1/2,2", "1,1", api.OK}, {"2,1/1,2", "1,2", api.ErrLimit}, {"2,1/0,2", "1,2", api.OK}, {"0,4/4,0", "1,1", api.OK}, {"1,4/4,0", "1,1", api.ErrLimit},
	} {
		entries := scales(2)
		entries = slices.Insert(entries, 3, api.Matrix{Name: "r", Vec: []uint64{0, 0}, Mats: entry(t, "0,0 "+x.rows).Mats}, api.Matrix{Name: "some", Vec: numbers(t, x.vec)})
		l := interpretation{2, entries}
		l.expectError(t, oddTerm{x.rows + " times " + x.vec, f("r", tower(3, "m", f("some"))), x.want})
	}
}

func TestVariables(t *testing.T) {
	list := vars(api.MaxMonos, "x")
	slices.Reverse(list)
	l := matrices(t, "q 1,0 2,0/1,3")
	names, m, e := matrix.Of(l.dim, l.list, join("h", append(slices.Clone(list), f("q", v("x007")), list[0])...))
	if len(names) != api.MaxMonos || !slices.IsSorted(names) || len(m.Mats) != api.MaxMonos || e != api.OK {
		t.Fatal(names, m, e)
	}
	for i, rows := range m.Mats {
		want := "1,0 1,0/0,1"
		if i == 7 {
			want = "1,0 3,0/1,4"
		} else if i == api.MaxMonos-1 {
			want = "1,0 2,0/0,2"
		}
		if !alike(api.Matrix{Vec: m.Vec, Mats: [][][]uint64{rows}}, entry(t, want)) {
			t.Error(names[i], rows)
		}
	}
	more := join("h", append(list, v("x064"))...)
	zero := "h 0,0 0,0/0,0 0,0/0,0"
	for _, x := range []struct {
		name, l string
		t       api.Term
		want    api.Errno
	}{
		{"too many variables", "a 0,0", more, api.ErrLimit},
		{"too many variables that do not matter", zero, more, api.ErrLimit},
		{"too many variables, and another number of arguments", "h 0,0 1,0/0,1", more, api.ErrLimit},
		{"most variables, another number of arguments", "h 0,0 1,0/0,1", join("h", list...), api.ErrOrder},
		{"most variables, none of which matters", zero, join("h", list...), api.OK},
		{"all variables are one", "a 0,0", wide(api.MaxSize, "w", v("x")), api.OK},
		{"deepest term", "s 1,0 1,0/0,1", tower(api.MaxDeep-1, "s", v("x")), api.OK},
	} {
		l := matrices(t, x.l)
		_, _, e := matrix.Of(l.dim, l.list, x.t)
		if _, e2 := matrix.Value(l.dim, l.list, x.t); e != x.want || e2 != x.want {
			t.Error(x.name, e, e2)
		}
	}
	count := 0
	for _, x := range subterms(wide(api.MaxSize, "w", v("x"))) {
		if x.Var {
			count++
		}
	}
	l.expectCoefficient(t, wide(api.MaxSize, "w", v("x")), uint64(count))
}

// expectCoefficient reports a term of one variable whose linear function is not so many times this variable.
func (l interpretation) expectCoefficient(t *testing.T, x api.Term, n uint64) {
	t.Helper()
	_, m, e := matrix.Of(l.dim, l.list, x)
	want := scale(l.dim, "", n)
	if !alike(m, want) || e != api.OK {
		t.Error(m, want, e)
	}
}

// A symbol has as many arguments as matrices, also if its vector is 0.
func TestArities(t *testing.T) {
	l := matrices(t, "a 0,2; f 0,1 0,0/0,0 1,0/0,1; g 0,0 1048576,0/0,1; nil 0,0")
	for _, x := range []struct {
		t    string
		want api.Errno
	}{
		{"a", api.OK}, {"a(x)", api.ErrOrder}, {"g", api.ErrOrder}, {"g(x)", api.OK}, {"g(x, y)", api.ErrOrder}, {"f(x)", api.ErrOrder}, {"f(x, y)", api.OK}, {"f(x, y, z)", api.ErrOrder},
		{"nil", api.OK}, {"nil(x)", api.ErrOrder}, {"nil(nil, nil)", api.ErrOrder}, {"h(nil, h(nil), h)", api.OK}, {"f(nil, nil(a))", api.ErrOrder},
		{"f(a, g(f(x, y)))", api.OK}, {"f(a, g(f(x, a(y))))", api.ErrOrder}, {"f(g(x, y), a)", api.ErrOrder}, {"h(h, h(h, h), g)", api.ErrOrder}, {"h(h, h(h, h), g(h))", api.OK},
		{"h(g(g(g(g(x)))), f)", api.ErrOrder}, {"h(f, g(g(g(g(x)))))", api.ErrOrder}, {"f(g(g(g(g(x)))), a)", api.ErrLimit},
	} {
		l.expectSame(t, parse(t, x.t))
		if _, _, e := matrix.Of(l.dim, l.list, parse(t, x.t)); e != x.want {
			t.Error(x, e)
		}
	}
}

// Results share no memory with each other or with an argument.
func TestMemory(t *testing.T) {
	l := matrices(t, "a 3,4; add 1,0 2,1/0,3 1,0/0,1; k 5,6 0,0/0,0; s 1,0 1,0/0,1")
	for _, s := range []string{"add(s(x), add(y, z))", "x", "k(x)", "a", "s(x)", "c"} {
		x := parse(t, s)
		before := fmt.Sprint(matrix.Of(l.dim, l.list, x))
		value := fmt.Sprint(matrix.Value(l.dim, l.list, x))
		names, m, _ := matrix.Of(l.dim, l.list, x)
		clear(names)
		rows := append([][]uint64{m.Vec}, slices.Concat(m.Mats...)...)
		for i, row := range rows {
			row = row[:cap(row)]
			for j := range row {
				row[j] = uint64(i)
			}
		}
		for i, row := range rows {
			if slices.ContainsFunc(row, func(n uint64) bool { return n != uint64(i) }) {
				t.Error("two rows share memory", s)
			}
		}
		for i, rows := range m.Mats {
			rows = rows[:cap(rows)]
			for j := range rows {
				rows[j] = []uint64{uint64(i)}
			}
		}
		for i, rows := range m.Mats {
			if slices.ContainsFunc(rows, func(row []uint64) bool { return row[0] != uint64(i) }) {
				t.Error("two matrices share memory", s)
			}
		}
		list, _ := matrix.Value(l.dim, l.list, x)
		clear(list[:cap(list)])
		if after := fmt.Sprint(matrix.Of(l.dim, l.list, x)); after != before {
			t.Error("a result shares memory", before, after)
		}
		if after := fmt.Sprint(matrix.Value(l.dim, l.list, x)); after != value {
			t.Error("a result shares memory", value, after)
		}
	}
}

// P9.3

func TestMonotone(t *testing.T) {
	l := matrices(t, "a 0,0; add 1,0 2,0/0,0 1,5/5,5; c# 0,0 1,0/0,0; f 9,9 0,1/1,1; first 0,0 1,0/0,1 0,9/9,9; last 0,0 0,1/1,1 1,0/0,1; some 1,1 1,0/0,0 0,0/0,0 1,1/1,1; z 0,0 0,0/0,0")
	for _, x := range []struct {
		symbols string
		want    bool
	}{
		{"", true}, {"a/0", true}, {"add/2", true}, {"c#/1", true}, {"f/1", false}, {"first/2", false}, {"last/2", false}, {"some/3", false}, {"z/1", false},
		// not listed
		{"other/0", true}, {"other/1", true}, {"other/8", true}, {"c/4", true}, {"f#/5", true},
		// several symbols
		{"add/2 c#/1 new/3", true}, {"add/2 c#/1 f/1", false}, {"f/1 add/2 c#/1", false}, {"add/2 add/2 other/2 other/3", true}, {"a/0 z/1 a/0", false},
	} {
		if ok, e := matrix.Monotone(l.dim, l.list, arities(t, x.symbols)); ok != x.want || e != api.OK {
			t.Error(x, ok, e)
		}
	}
	// the list of symbols has no limit
	many := slices.Repeat(arities(t, "add/2 c#/1 a/0"), 100000)
	if ok, e := matrix.Monotone(l.dim, l.list, many); !ok || e != api.OK {
		t.Error(ok, e)
	}
	if ok, e := matrix.Monotone(l.dim, l.list, append(many, api.Symbol{Name: "z", Arity: 1})); ok || e != api.OK {
		t.Error(ok, e)
	}
}

// Only the first element of each matrix counts.
func TestMonotoneElements(t *testing.T) {
	for dim := 1; dim <= api.MaxDim; dim++ {
		for arity := 1; arity <= api.MaxArity; arity++ {
			symbol := []api.Symbol{{Name: "f", Arity: arity}}
			for arg := range arity {
				x := api.Matrix{Name: "f", Vec: make([]uint64, dim)}
				for range arity {
					x.Mats = append(x.Mats, filled(dim, dim, 0))
					x.Mats[len(x.Mats)-1][0][0] = 1
				}
				if ok, e := matrix.Monotone(dim, []api.Matrix{x}, symbol); !ok || e != api.OK {
					t.Error(x, ok, e)
				}
				x.Vec = slices.Repeat([]uint64{7}, dim)
				x.Mats[arg] = filled(dim, dim, 7)
				x.Mats[arg][0][0] = 0
				if ok, e := matrix.Monotone(dim, []api.Matrix{x}, symbol); ok || e != api.OK {
					t.Error(x, ok, e)
				}
			}
		}
	}
}

func TestMonotoneErrors(t *testing.T) {
	l := matrices(t, "a 3,0; f 1,1 1,0/0,1 1,0/0,1; q 1,0 0,0/0,0; z 0,0")
	for _, s := range []string{"a/1", "a/8", "f/0", "f/1", "f/3", "q/0", "q/2", "z/1", "z/8", "q/1 f/2 a/0 f/1", "f/3 q/1", "z/4 other/3 q/8"} {
		if ok, e := matrix.Monotone(l.dim, l.list, arities(t, s)); ok || e != api.ErrOrder {
			t.Error(s, ok, e)
		}
	}
	for _, arity := range []int{-1, api.MaxArity + 1, math.MaxInt, math.MinInt} {
		for _, name := range []string{"a", "f", "z", "other", "q#"} {
			symbols := []api.Symbol{{Name: "q", Arity: 3}, {Name: name, Arity: arity}, {Name: "q"}}
			if ok, e := matrix.Monotone(l.dim, l.list, symbols); ok || e != api.ErrArg {
				t.Error(symbols, ok, e)
			}
		}
		for _, name := range oddNames() {
			symbols := []api.Symbol{{Name: "f", Arity: arity}, {Name: "q"}, {Name: name}, {Name: "a", Arity: arity}}
			if ok, e := matrix.Monotone(l.dim, l.list, symbols); ok || e != api.ErrForm {
				t.Error(symbols, ok, e)
			}
		}
	}
}

// P9.4

func TestCompare(t *testing.T) {
	l := matrices(t, "a 1,0; b 0,0; d 1,1; e 2,0; f 0,1 1,1/0,0; g 1,0 1,0/0,1; k 3,4 0,0/0,0; n 0,1 1,0/0,1; r 0,0 0,1/1,0; w 0,0 2,0/0,2; zero 0,0 0,0/0,0")
	for _, x := range []struct {
		s, t string
		want int
	}{
		{"f(f(x))", "f(x)", 2}, {"f(x)", "f(x)", 1}, {"f(x)", "x", 0}, {"a", "b", 2}, {"f(x)", "f(y)", 0}, {"x", "x", 1}, {"x", "y", 0}, {"g(x)", "x", 2}, {"x", "g(x)", 0}, {"g(x)", "y", 0},
		// only the first element of the vector is strict, but all of them count
		{"n(x)", "x", 1}, {"x", "n(x)", 0}, {"d", "a", 1}, {"a", "d", 0}, {"e", "d", 0}, {"d", "e", 0}, {"e", "a", 2}, {"a", "a", 1}, {"n(e)", "d", 2}, {"g(n(x))", "g(x)", 1}, {"g(n(x))", "n(x)", 2},
		// every element of a matrix counts
		{"w(x)", "x", 1}, {"x", "w(x)", 0}, {"g(w(x))", "x", 2}, {"r(x)", "x", 0}, {"h(x, r(x))", "r(x)", 1}, {"h(x, r(x))", "w(x)", 0}, {"g(h(x, r(x)))", "x", 2}, {"f(x)", "r(x)", 0},
		{"h(r(x), r(x))", "w(x)", 0}, {"h(w(x), f(x))", "f(w(x))", 0}, {"w(h(f(x), x))", "h(f(x), x)", 1},
		// variables of one side
		{"h(x, y)", "x", 1}, {"x", "h(x, y)", 0}, {"k(x)", "a", 2}, {"a", "x", 0}, {"x", "a", 0}, {"x", "b", 1}, {"x", "c", 1}, {"x", "zero(y)", 1}, {"b", "zero(y)", 1}, {"zero(y)", "b", 1}, {"g(x)", "zero(y)", 2},
		{"h(x, y, z)", "y", 1}, {"h(y, z)", "h(x, y, z)", 0}, {"z", "h(zero(x), z)", 1}, {"b", "x", 0}, {"zero(x)", "x", 0}, {"k(x)", "k(y)", 1}, {"g(k(x))", "k(y)", 2}, {"k(x)", "x", 0},
	} {
		a, b := parse(t, x.s), parse(t, x.t)
		if n := l.compare(t, a, b); n != x.want || n != l.compared(a, b) {
			t.Error(x, n, l.compared(a, b))
		}
	}
}

// Each element of the vector and of each matrix counts, in each dimension.
func TestCompareElements(t *testing.T) {
	for dim := 1; dim <= api.MaxDim; dim++ {
		for at := range dim * (1 + 2*dim) {
			low := api.Matrix{Name: "f", Vec: slices.Repeat([]uint64{3}, dim), Mats: [][][]uint64{filled(dim, dim, 3), filled(dim, dim, 3)}}
			high := api.Matrix{Name: "g", Vec: slices.Clone(low.Vec), Mats: [][][]uint64{filled(dim, dim, 3), filled(dim, dim, 3)}}
			rows := append([][]uint64{high.Vec}, slices.Concat(high.Mats...)...)
			rows[at/dim][at%dim] = 4
			more, some := 1, api.Matrix{Name: "s", Vec: make([]uint64, dim), Mats: [][][]uint64{identity(dim).rows()}}
			if at == 0 {
				more = 2
			}
			some.Vec[0] = 1
			l := interpretation{dim, []api.Matrix{low, high, some}}
			a, b := f("f", v("x"), v("y")), f("g", v("x"), v("y"))
			for i, n := range []int{l.compare(t, a, a), l.compare(t, a, b), l.compare(t, b, a), l.compare(t, b, b), l.compare(t, f("s", b), a), l.compare(t, f("s", a), f("s", b))} {
				if want := []int{1, 0, more, 1, 2, 0}[i]; n != want {
					t.Error(dim, at, i, n)
				}
			}
			if n := l.compare(t, f("s", a), b); at > 0 && n != 0 || at == 0 && n != 1 {
				t.Error(dim, at, n)
			}
		}
	}
}

func TestCompareMany(t *testing.T) {
	d := dice(3)
	count := map[int]int{}
	for i := range 4000 {
		l := d.interpretation(1+i%api.MaxDim, 3)
		a, b := d.term(3, "x", "y", "z"), d.term(2, "w", "x", "y", "z")
		for _, x := range []api.Term{b, d.change(a)} {
			n := l.compare(t, a, x)
			count[n]++
			if want := l.compared(a, x); n != want {
				t.Error(l, show(a), show(x), n, want)
			}
		}
	}
	if count[0] < 1000 || count[1] < 1000 || count[2] < 500 {
		t.Error("too few of a kind", count)
	}
}

// Both terms may have the most variables, also different ones.
func TestCompareVariables(t *testing.T) {
	l := matrices(t, "k 5,0 0,0/0,0; s 1,0 1,0/0,1")
	some, others := vars(api.MaxMonos, "x"), vars(api.MaxMonos, "w")
	back := slices.Clone(some)
	slices.Reverse(back)
	for _, x := range []struct {
		s, t api.Term
		want int
	}{
		{join("h", some...), join("h", back...), 1},
		{f("s", join("h", some...)), join("h", back...), 2},
		{join("h", some...), join("h", others...), 0},
		{join("h", some...), f("k", join("h", others...)), 0},
		{f("s", f("k", join("h", some...))), f("k", join("h", others...)), 2},
		{f("h", f("k", join("h", some[1:]...)), others[63]), others[63], 2},
		{join("h", some...), some[63], 1},
		{some[63], join("h", some...), 0},
		{join("h", some[1:]...), join("h", some[:63]...), 0},
	} {
		if n := l.compare(t, x.s, x.t); n != x.want {
			t.Error(show(x.s), show(x.t), n)
		}
	}
}

// Elements up to the limits are compared.
func TestCompareLarge(t *testing.T) {
	l := interpretation{2, slices.Insert(scales(2), 3, api.Matrix{Name: "one", Vec: []uint64{1, 0}})}
	large := f("four", tower(3, "m", f("one")))
	less := f("h", f("two", tower(3, "m", f("one"))), tower(3, "m", f("one")))
	x := f("four", tower(3, "m", v("x")))
	for _, y := range []struct {
		s, t api.Term
		want int
	}{{large, large, 1}, {large, less, 2}, {less, large, 0}, {large, f("c"), 2}, {f("c"), large, 0}, {x, x, 1}, {x, v("x"), 1}, {v("x"), x, 0}, {x, f("two", tower(3, "m", v("x"))), 1}} {
		if n := l.compare(t, y.s, y.t); n != y.want {
			t.Error(show(y.s), show(y.t), n)
		}
	}
}

func TestOrients(t *testing.T) {
	const example = "a 1,0; b 0,0; f 0,1 1,1/0,0"
	for _, x := range []struct {
		l, r string
		want []int
	}{
		{example, "", nil},
		{"", "", nil},
		{example, "f(f(x)) -> f(x) a -> b", []int{2, 2}},
		{example, "f(x) -> f(x) f(x) -> x f(f(x)) -> f(g(f(x))) b -> a", []int{1, 0, 1, 0}},
		{"f 0,1 1,1/0,0; g 0,0 1,0/0,0", "f(f(x)) -> f(g(f(x)))", []int{2}},
		{"add 1 2 1; s 1 1", "add(0, y) -> y add(s(x), y) -> s(add(x, y))", []int{2, 2}},
		{"", "f(x, y) -> f(y, x) f(x, y) -> x a -> b f(x, x) -> g(x)", []int{1, 1, 1, 1}},
		{"s 1,0,0 1,0,0/0,1,0/0,0,1", "s(x) -> x f(s(x)) -> s(f(x)) f(x) -> s(x)", []int{2, 1, 0}},
	} {
		l := matrices(t, x.l)
		got, e := matrix.Orients(l.dim, l.list, system(t, x.r))
		if !slices.Equal(got, x.want) || e != api.OK {
			t.Error(x.l, x.r, got, e)
		}
	}
	l := matrices(t, "s 1,0 1,0/0,1; w 1,0 2,0/0,2")
	most := slices.Repeat([]api.Rule{rule(tower(61, "w", v("x")), tower(61, "s", v("x"))), rule(tower(100, "s", v("x")), tower(101, "s", v("x")))}, api.MaxRules/2)
	got, e := matrix.Orients(l.dim, l.list, most)
	if !slices.Equal(got, slices.Repeat([]int{2, 0}, api.MaxRules/2)) || e != api.OK {
		t.Error(got, e)
	}
}

func TestOrientsMany(t *testing.T) {
	d := dice(4)
	count := map[int]int{}
	for i := range 2000 {
		l, r := d.interpretation(1+i%api.MaxDim, 3), d.system()
		got, e := matrix.Orients(l.dim, l.list, r)
		if len(got) != len(r) || e != api.OK {
			t.Fatal(l, showSystem(r), got, e)
		}
		for i, x := range r {
			count[got[i]]++
			if got[i] != l.compared(x.Left, x.Right) {
				t.Error(l, showSystem(r), got)
			}
		}
	}
	if count[0] < 300 || count[1] < 300 || count[2] < 300 {
		t.Error("too few of a kind", count)
	}
}

// The errors of Of are those of the first side that has one.
func TestOrientsErrors(t *testing.T) {
	l := matrices(t, refusing)
	good := "h(x) -> x"
	for _, x := range []struct {
		r    string
		want api.Errno
	}{
		{"q(q(q(b))) -> a", api.ErrLimit},
		{"a -> q(q(q(b)))", api.ErrLimit},
		{"g(x, y) -> x", api.ErrOrder},
		{"h(x, y) -> g(x, y)", api.ErrOrder},
		{"q(q(q(b))) -> g(b, b)", api.ErrLimit},
		{"g(b, b) -> q(q(q(b)))", api.ErrOrder},
		{"a -> q(q(q(b))) g(b, b) -> a", api.ErrLimit},
		{"a -> g(b, b) q(q(q(b))) -> a", api.ErrOrder},
		{"h(q(q(q(b))), g(b, b)) -> a", api.ErrOrder},
		{"q(q(q(q(x)))) -> g(x, x)", api.ErrLimit},
	} {
		for _, s := range []string{x.r, good + " " + x.r, x.r + " " + good} {
			if strings.Contains(x.r, "h(x, y)") || strings.Contains(x.r, "h(q(") {
				s = strings.ReplaceAll(s, good, "k(x) -> x")
			}
			if list, e := matrix.Orients(l.dim, l.list, system(t, s)); len(list) != 0 || e != x.want {
				t.Error(s, list, e)
			}
		}
	}
}

// Errors

// calls reports results with an error that is not the expected one.
type calls struct{ *testing.T }

func (t calls) of(what string, l interpretation, a api.Term, want api.Errno) {
	t.Helper()
	if names, m, e := matrix.Of(l.dim, l.list, a); len(names) != 0 || !alike(m, api.Matrix{}) || e != want {
		t.Errorf("Of: %s: %v %v, error %d, expected %d", what, names, m, e, want)
	}
	if n, e := matrix.Value(l.dim, l.list, a); len(n) != 0 || e != want {
		t.Errorf("Value: %s: %v, error %d, expected %d", what, n, e, want)
	}
}

func (t calls) monotone(what string, l interpretation, symbols []api.Symbol, want api.Errno) {
	t.Helper()
	if ok, e := matrix.Monotone(l.dim, l.list, symbols); ok || e != want {
		t.Errorf("Monotone: %s: %v, error %d, expected %d", what, ok, e, want)
	}
}

func (t calls) compare(what string, l interpretation, a, b api.Term, want api.Errno) {
	t.Helper()
	if n, e := matrix.Compare(l.dim, l.list, a, b); n != 0 || e != want {
		t.Errorf("Compare: %s: %d, error %d, expected %d", what, n, e, want)
	}
}

func (t calls) orients(what string, l interpretation, r []api.Rule, want api.Errno) {
	t.Helper()
	if list, e := matrix.Orients(l.dim, l.list, r); len(list) != 0 || e != want {
		t.Errorf("Orients: %s: %v, error %d, expected %d", what, list, e, want)
	}
}

// The errors of an interpretation come before all others.
func TestErrorsOfInterpretations(test *testing.T) {
	t, a, r := calls{test}, f("a"), system(test, "a -> b")
	terms := append(oddTerms(), refusedTerms()...)
	for dim := 1; dim <= api.MaxDim; dim++ {
		for i, x := range oddInterpretations(dim) {
			t.of(x.name, x.interpretation, f("g", a), x.e)
			t.monotone(x.name, x.interpretation, nil, x.e)
			t.monotone(x.name+", odd name", x.interpretation, []api.Symbol{{Name: "-"}}, x.e)
			t.monotone(x.name+", odd arity", x.interpretation, []api.Symbol{{Name: "a", Arity: -1}}, x.e)
			t.compare(x.name, x.interpretation, f("g", a), a, x.e)
			t.orients(x.name, x.interpretation, r, x.e)
			t.orients(x.name, x.interpretation, nil, x.e)
			y := terms[i%len(terms)]
			t.of(x.name+", "+y.name, x.interpretation, y.t, x.e)
			t.compare(x.name+", "+y.name, x.interpretation, y.t, a, x.e)
			t.compare(x.name+", "+y.name, x.interpretation, a, y.t, x.e)
			z := oddSystems()[i%len(oddSystems())]
			t.orients(x.name+", "+z.name, x.interpretation, z.r, x.e)
		}
	}
}

// The errors of the first term come before those of the second one, whatever they are.
func TestErrorsOfTerms(test *testing.T) {
	t, l, a := calls{test}, matrices(test, refusing), f("a")
	terms := append(oddTerms(), refusedTerms()...)
	for _, x := range terms {
		t.of(x.name, l, x.t, x.e)
		t.compare(x.name, l, x.t, a, x.e)
		t.compare(x.name, l, a, x.t, x.e)
		for _, y := range terms {
			t.compare(x.name+", "+y.name, l, x.t, y.t, x.e)
		}
	}
	for _, x := range oddSystems() {
		t.orients(x.name, l, x.r, x.e)
	}
}

// No function depends on anything but its arguments, or changes them.
func TestAnyArguments(t *testing.T) {
	d := dice(5)
	odd := oddInterpretations(2)
	for i := range 500 {
		l, a, b, r := d.interpretation(1+i%api.MaxDim, 4), d.term(4, "x", "y"), d.term(4, "x", "y"), d.system()
		if d.below(4) == 0 {
			l = odd[d.below(len(odd))].interpretation
		}
		names := symbolsOf(a, b)
		slices.Reverse(names)
		write := func() string { return fmt.Sprint(l, names, show(a), show(b), showSystem(r)) }
		call := func() string {
			e := matrix.Check(l.dim, l.list)
			vars, m, e2 := matrix.Of(l.dim, l.list, a)
			n, e3 := matrix.Value(l.dim, l.list, a)
			ok, e4 := matrix.Monotone(l.dim, l.list, names)
			i, e5 := matrix.Compare(l.dim, l.list, a, b)
			list, e6 := matrix.Orients(l.dim, l.list, r)
			s := fmt.Sprint(e, vars, m, e2, n, e3, ok, e4, i, e5, list, e6)
			clear(vars)
			clear(m.Vec)
			for _, row := range slices.Concat(m.Mats...) {
				clear(row)
			}
			clear(n)
			clear(list)
			return s
		}
		before, first := write(), call()
		if again := call(); again != first {
			t.Error("different results", before, first, again)
		}
		if write() != before {
			t.Error("an argument has changed", before, write())
		}
	}
}

// Example 1 of the chapter.
func TestExample(t *testing.T) {
	l := matrices(t, "a 1,0; b 0,0; f 0,1 1,1/0,0")
	p, e := matrix.Value(2, l.list, parse(t, "f(f(a))"))
	q, e2 := matrix.Value(2, l.list, parse(t, "f(f(b))"))
	if !slices.Equal(p, []uint64{2, 1}) || !slices.Equal(q, []uint64{1, 1}) || e != api.OK || e2 != api.OK {
		t.Error(p, e, q, e2)
	}
}

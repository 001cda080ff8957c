package matrix_test

import (
	"fmt"
	"math"
	"math/big"
	"slices"
	"strconv"
	"strings"
	"testing"

	"dwindle/api"
	"dwindle/matrix"
	"dwindle/read"
	"dwindle/term"
)

// v returns a variable.
func v(name string) api.Term { return api.Term{Name: name, Var: true} }

// f returns a function symbol applied to arguments.
func f(name string, args ...api.Term) api.Term { return api.Term{Name: name, Args: args} }

// rule returns a rule.
func rule(left, right api.Term) api.Rule { return api.Rule{Left: left, Right: right} }

// numbers returns the row of a string such as "1,0".
func numbers(t *testing.T, s string) []uint64 {
	t.Helper()
	var row []uint64
	for _, word := range strings.Split(s, ",") {
		n, err := strconv.ParseUint(word, 10, 64)
		if err != nil {
			t.Fatal(s, err)
		}
		row = append(row, n)
	}
	return row
}

// entry returns the vector and the matrices of a string such as "0,1 1,1/0,0 2,0/3,1": a vector and the rows of matrices.
func entry(t *testing.T, s string) api.Matrix {
	t.Helper()
	words := strings.Fields(s)
	x := api.Matrix{Vec: numbers(t, words[0])}
	for _, word := range words[1:] {
		var rows [][]uint64
		for _, row := range strings.Split(word, "/") {
			rows = append(rows, numbers(t, row))
		}
		x.Mats = append(x.Mats, rows)
	}
	return x
}

// matrices returns the interpretation of a string such as "a 1,0; f 0,1 1,1/0,0", whose dimension is that of its vectors.
func matrices(t *testing.T, s string) interpretation {
	t.Helper()
	l := interpretation{dim: 1}
	for _, part := range strings.Split(s, ";") {
		name, rest, _ := strings.Cut(strings.TrimSpace(part), " ")
		if name != "" {
			x := entry(t, rest)
			x.Name = name
			l.list = append(l.list, x)
			l.dim = len(x.Vec)
		}
	}
	return l
}

// arities returns the symbols of a string such as "f/2 a/0".
func arities(t *testing.T, s string) []api.Symbol {
	t.Helper()
	var list []api.Symbol
	for _, word := range strings.Fields(s) {
		name, number, _ := strings.Cut(word, "/")
		x := api.Symbol{Name: name}
		if _, err := fmt.Sscan(number, &x.Arity); err != nil {
			t.Fatal(s, err)
		}
		list = append(list, x)
	}
	return list
}

// parse returns the term of a source, in which x, y and z are variables.
func parse(t *testing.T, s string) api.Term {
	t.Helper()
	x, at, e := read.Term(s, []string{"x", "y", "z"})
	if e != api.OK {
		t.Fatal(s, at, e)
	}
	return x
}

// system returns the rules of a source, in which x, y and z are variables.
func system(t *testing.T, s string) []api.Rule {
	t.Helper()
	r, at, e := read.System("(VAR x y z)(RULES " + s + ")")
	if e != api.OK {
		t.Fatal(s, at, e)
	}
	return r
}

// tower returns a term below so many symbols with one argument.
func tower(n int, symbol string, t api.Term) api.Term {
	for range n {
		t = f(symbol, t)
	}
	return t
}

// wide returns a term with exactly n nodes and a small depth, in which the leaf occurs as often as possible.
func wide(n int, symbol string, leaf api.Term) api.Term {
	if n == 1 {
		return leaf
	}
	rest := n - 1
	count := min(rest, api.MaxArity)
	t := f(symbol)
	for i := range count {
		share := rest / (count - i)
		t.Args = append(t.Args, wide(share, symbol, leaf))
		rest -= share
	}
	return t
}

// join returns a term that applies a symbol with two arguments to one term after the other.
func join(symbol string, list ...api.Term) api.Term {
	t := list[0]
	for _, x := range list[1:] {
		t = f(symbol, t, x)
	}
	return t
}

// vars returns so many variables.
func vars(n int, prefix string) []api.Term {
	var list []api.Term
	for i := range n {
		list = append(list, v(fmt.Sprintf("%s%03d", prefix, i)))
	}
	return list
}

// show writes any term; variables are marked by a question mark.
func show(t api.Term) string {
	s := t.Name
	if t.Var {
		s = "?" + s
	}
	if len(t.Args) == 0 {
		return s
	}
	var l []string
	for _, x := range t.Args {
		l = append(l, show(x))
	}
	return s + "(" + strings.Join(l, ", ") + ")"
}

// showSystem writes any rules.
func showSystem(r []api.Rule) string {
	var l []string
	for _, x := range r {
		l = append(l, show(x.Left)+" -> "+show(x.Right))
	}
	return strings.Join(l, "; ")
}

// alike reports whether two interpretations of a symbol are equal; nil and empty lists are.
func alike(a, b api.Matrix) bool {
	same := func(x, y [][]uint64) bool { return slices.EqualFunc(x, y, slices.Equal[[]uint64]) }
	return a.Name == b.Name && slices.Equal(a.Vec, b.Vec) && slices.EqualFunc(a.Mats, b.Mats, same)
}

// number is a value that may be larger than MaxValue.
func number(n uint64) *big.Int { return new(big.Int).SetUint64(n) }

// table is a matrix without limits, row by row; a table with one column is a vector.
type table [][]*big.Int

// zeros returns a table of zeros.
func zeros(rows, columns int) table {
	result := make(table, rows)
	for i := range result {
		for range columns {
			result[i] = append(result[i], number(0))
		}
	}
	return result
}

// identity returns a square matrix.
func identity(dim int) table {
	result := zeros(dim, dim)
	for i := range result {
		result[i][i] = number(1)
	}
	return result
}

// square returns the table of a matrix.
func square(rows [][]uint64) table {
	result := make(table, len(rows))
	for i, row := range rows {
		for _, n := range row {
			result[i] = append(result[i], number(n))
		}
	}
	return result
}

// vector returns the table of a vector.
func vector(list []uint64) table {
	result := make(table, len(list))
	for i, n := range list {
		result[i] = []*big.Int{number(n)}
	}
	return result
}

// plus returns a sum.
func (a table) plus(b table) table {
	result := zeros(len(a), len(a[0]))
	for i := range a {
		for j := range a[i] {
			result[i][j].Add(a[i][j], b[i][j])
		}
	}
	return result
}

// times returns a product.
func (a table) times(b table) table {
	result := zeros(len(a), len(b[0]))
	for i := range a {
		for j := range b[0] {
			for k := range b {
				result[i][j].Add(result[i][j], new(big.Int).Mul(a[i][k], b[k][j]))
			}
		}
	}
	return result
}

// most returns the largest element.
func (a table) most() *big.Int {
	result := number(0)
	for _, row := range a {
		for _, n := range row {
			if n.Cmp(result) > 0 {
				result = n
			}
		}
	}
	return result
}

// covers reports whether no element is smaller than that of b.
func (a table) covers(b table) bool {
	for i, row := range a {
		for j, n := range row {
			if n.Cmp(b[i][j]) < 0 {
				return false
			}
		}
	}
	return true
}

// rows returns the matrix of a table within the limits.
func (a table) rows() [][]uint64 {
	var list [][]uint64
	for _, row := range a {
		list = append(list, nil)
		for _, n := range row {
			list[len(list)-1] = append(list[len(list)-1], n.Uint64())
		}
	}
	return list
}

// elements returns the vector of a table within the limits.
func (a table) elements() []uint64 { return slices.Concat(a.rows()...) }

// interpretation is a dimension and a list of matrices.
type interpretation struct {
	dim  int
	list []api.Matrix
}

// vec returns the vector of a symbol.
func (l interpretation) vec(name string) table {
	for _, x := range l.list {
		if x.Name == name {
			return vector(x.Vec)
		}
	}
	return zeros(l.dim, 1)
}

// mat returns the matrix of an argument of a symbol.
func (l interpretation) mat(name string, arg int) table {
	for _, x := range l.list {
		if x.Name == name {
			return square(x.Mats[arg])
		}
	}
	return identity(l.dim)
}

// fits reports whether the numbers of arguments of all symbols of a term are those of their matrices.
func (l interpretation) fits(t api.Term) bool {
	for _, x := range subterms(t) {
		i := slices.IndexFunc(l.list, func(y api.Matrix) bool { return !x.Var && x.Name == y.Name })
		if i >= 0 && len(l.list[i].Mats) != len(x.Args) {
			return false
		}
	}
	return true
}

// literal returns the linear function of a term without limits: its vector under the empty name, and the matrix of each of
// its variables. Each node contributes the product of the matrices on the way to it, times its vector or as it is.
func (l interpretation) literal(t api.Term) map[string]table {
	result := map[string]table{"": zeros(l.dim, 1)}
	var visit func(t api.Term, way table)
	visit = func(t api.Term, way table) {
		if t.Var {
			if _, known := result[t.Name]; !known {
				result[t.Name] = zeros(l.dim, l.dim)
			}
			result[t.Name] = result[t.Name].plus(way)
			return
		}
		result[""] = result[""].plus(way.times(l.vec(t.Name)))
		for i, x := range t.Args {
			visit(x, way.times(l.mat(t.Name, i)))
		}
	}
	visit(t, identity(l.dim))
	return result
}

// expected returns what the text of P9.2 has for a valid term.
func (l interpretation) expected(t api.Term) ([]string, api.Matrix, api.Errno) {
	var names []string
	for _, x := range subterms(t) {
		if x.Var && !slices.Contains(names, x.Name) {
			names = append(names, x.Name)
		}
	}
	slices.Sort(names)
	if len(names) > api.MaxMonos {
		return nil, api.Matrix{}, api.ErrLimit
	}
	if !l.fits(t) {
		return nil, api.Matrix{}, api.ErrOrder
	}
	for _, x := range subterms(t) {
		for _, a := range l.literal(x) {
			if a.most().Cmp(number(api.MaxValue)) > 0 {
				return nil, api.Matrix{}, api.ErrLimit
			}
		}
	}
	tables := l.literal(t)
	result := api.Matrix{Vec: tables[""].elements()}
	for _, name := range names {
		result.Mats = append(result.Mats, tables[name].rows())
	}
	return names, result, api.OK
}

// compared follows the text of P9.4 for terms without errors.
func (l interpretation) compared(s, t api.Term) int {
	p, q := l.literal(s), l.literal(t)
	for name, b := range q {
		a, known := p[name]
		if !known {
			a = zeros(l.dim, l.dim)
		}
		if !a.covers(b) {
			return 0
		}
	}
	return 1 + p[""][0][0].Cmp(q[""][0][0])
}

// expectSame reports a linear function or an error other than in the text of P9.2, and returns the error.
func (l interpretation) expectSame(t *testing.T, x api.Term) api.Errno {
	t.Helper()
	names, m, e := matrix.Of(l.dim, l.list, x)
	wantNames, wantMatrix, want := l.expected(x)
	if !slices.Equal(names, wantNames) || !alike(m, wantMatrix) || e != want {
		t.Error(l, show(x), names, m, e, "expected", wantNames, wantMatrix, want)
	}
	value, e := matrix.Value(l.dim, l.list, x)
	if !slices.Equal(value, wantMatrix.Vec) || e != want {
		t.Error(l, show(x), value, e, "expected", wantMatrix.Vec, want)
	}
	return want
}

// compare returns the result of Compare where there must be no error.
func (l interpretation) compare(t *testing.T, a, b api.Term) int {
	t.Helper()
	n, e := matrix.Compare(l.dim, l.list, a, b)
	if e != api.OK {
		t.Fatal(l, show(a), show(b), e)
	}
	return n
}

// value returns the value of a term at the values of its variables, evaluated bottom-up.
func (l interpretation) value(t api.Term, values map[string]table) table {
	if t.Var {
		return values[t.Name]
	}
	result := l.vec(t.Name)
	for i, x := range t.Args {
		result = result.plus(l.mat(t.Name, i).times(l.value(x, values)))
	}
	return result
}

// subterms returns a term and all its proper subterms.
func subterms(t api.Term) []api.Term {
	list := []api.Term{t}
	for _, x := range t.Args {
		list = append(list, subterms(x)...)
	}
	return list
}

// symbolsOf returns the different function symbols of terms.
func symbolsOf(terms ...api.Term) []api.Symbol {
	var list []api.Symbol
	for _, t := range terms {
		for _, x := range subterms(t) {
			symbol := api.Symbol{Name: x.Name, Arity: len(x.Args)}
			if !x.Var && !slices.Contains(list, symbol) {
				list = append(list, symbol)
			}
		}
	}
	return list
}

// dice returns the same numbers below n in every run.
type dice uint32

func (d *dice) below(n int) int {
	*d = *d*1664525 + 1013904223
	return int(*d>>8) % n
}

// term returns a term of at most this depth over f, g, a, b and these variables.
func (d *dice) term(depth int, vars ...string) api.Term {
	n := d.below(10)
	if len(vars) > 0 && (n < 2 || depth == 1 && n < 6) {
		return v(vars[d.below(len(vars))])
	}
	if depth == 1 || n < 3 {
		return f([]string{"a", "b"}[d.below(2)])
	}
	if n < 6 {
		return f("g", d.term(depth-1, vars...))
	}
	return f("f", d.term(depth-1, vars...), d.term(depth-1, vars...))
}

// row returns a row of numbers below limit, most of which are small.
func (d *dice) row(dim, limit int) []uint64 {
	var row []uint64
	for range dim {
		row = append(row, uint64(d.below(1+d.below(limit))))
	}
	return row
}

// entry returns an interpretation of a symbol with numbers below limit.
func (d *dice) entry(name string, dim, arity, limit int) api.Matrix {
	x := api.Matrix{Name: name, Vec: d.row(dim, limit)}
	for range arity {
		var rows [][]uint64
		for range dim {
			rows = append(rows, d.row(dim, limit))
		}
		x.Mats = append(x.Mats, rows)
	}
	return x
}

// interpretation returns an interpretation of some of a, b, f and g.
func (d *dice) interpretation(dim, limit int) interpretation {
	l := interpretation{dim: dim}
	for i, name := range []string{"a", "b", "f", "g"} {
		if d.below(5) > 0 {
			l.list = append(l.list, d.entry(name, dim, []int{0, 0, 2, 1}[i], limit))
		}
	}
	return l
}

// monotone returns an interpretation that is monotone for a, b, f and g.
func (d *dice) monotone(dim, limit int) interpretation {
	l := d.interpretation(dim, limit)
	for _, x := range l.list {
		for _, rows := range x.Mats {
			rows[0][0] = max(rows[0][0], 1)
		}
	}
	return l
}

// values returns values of variables, with numbers below limit.
func (d *dice) values(dim, limit int, names ...string) map[string]table {
	m := map[string]table{}
	for _, name := range names {
		m[name] = vector(d.row(dim, limit))
	}
	return m
}

// change returns a term with one of its subterms replaced by one of the others, or by a new one.
func (d *dice) change(t api.Term) api.Term {
	positions, _ := term.Positions(t)
	list := append(subterms(t), d.term(2, "x", "y"))
	u, _ := term.Put(t, positions[d.below(len(positions))], list[d.below(len(list))])
	return u
}

// system returns a system of one to three rules.
func (d *dice) system() []api.Rule {
	var r []api.Rule
	for range 1 + d.below(3) {
		left := d.term(3, "x", "y")
		for left.Var {
			left = d.term(3, "x", "y")
		}
		names, _ := term.Vars(left)
		r = append(r, rule(left, d.term(2, names...)))
	}
	return r
}

// oddTerm is a term that is not valid, with its error.
type oddTerm struct {
	name string
	t    api.Term
	e    api.Errno
}

// oddTerms returns terms that are not valid.
func oddTerms() []oddTerm {
	ring := make([]api.Term, 2)
	ring[0], ring[1] = f("f", ring...), f("a")
	return []oddTerm{
		{"zero value", api.Term{}, api.ErrForm},
		{"marked variable", v("x#"), api.ErrForm},
		{"variable with an argument", api.Term{Name: "x", Var: true, Args: []api.Term{v("y")}}, api.ErrForm},
		{"symbol with a blank", f("f", f("a b")), api.ErrForm},
		{"long name", f(strings.Repeat("a", api.MaxName+1)), api.ErrForm},
		{"nine arguments", f("f", slices.Repeat([]api.Term{f("c")}, api.MaxArity+1)...), api.ErrForm},
		{"too deep", tower(api.MaxDeep, "s", f("a")), api.ErrLimit},
		{"too large", wide(api.MaxSize+1, "w", f("a")), api.ErrLimit},
		{"too large and malformed", f("f", wide(api.MaxSize, "w", f("a")), v("-")), api.ErrForm},
		{"ring", ring[0], api.ErrLimit},
	}
}

// refusing is an interpretation that refuses the terms of refusedTerms.
const refusing = "a 1,0; b 0,5; g 0,0 0,0/0,1; q 0,0 1048576,0/0,1048576"

// refusedTerms returns valid terms that have no linear function under the interpretation refusing.
func refusedTerms() []oddTerm {
	long := join("h", vars(api.MaxMonos+1, "x")...)
	large := tower(3, "q", f("b"))
	return []oddTerm{
		{"too many variables", long, api.ErrLimit},
		{"too many variables and an odd symbol", f("g", long, large), api.ErrLimit},
		{"odd symbol", f("g"), api.ErrOrder},
		{"odd symbol after a large value", f("h", large, f("g", v("x"), v("y"))), api.ErrOrder},
		{"large value", f("h", v("x"), large), api.ErrLimit},
		{"large coefficient", f("g", tower(4, "q", v("x"))), api.ErrLimit},
	}
}

// oddSystem is a slice of rules that is not a system, with its error.
type oddSystem struct {
	name string
	r    []api.Rule
	e    api.Errno
}

// oddSystems returns slices of rules that are no systems.
func oddSystems() []oddSystem {
	ab := rule(f("a"), f("b"))
	var list []oddSystem
	for _, x := range oddTerms() {
		list = append(list, oddSystem{x.name + " left", []api.Rule{ab, rule(x.t, f("b"))}, x.e})
		list = append(list, oddSystem{x.name + " right", []api.Rule{ab, rule(f("a"), x.t), rule(v("x"), f("a"))}, x.e})
	}
	return append(list,
		oddSystem{"too many rules", slices.Repeat([]api.Rule{rule(f(""), f(""))}, api.MaxRules+1), api.ErrLimit},
		oddSystem{"marked symbol", []api.Rule{ab, rule(v("x"), f("a#"))}, api.ErrName},
		oddSystem{"two arities", []api.Rule{ab, rule(f("a", v("x")), v("x"))}, api.ErrName},
		oddSystem{"variable on the left", []api.Rule{ab, rule(v("x"), f("a"))}, api.ErrVar},
		oddSystem{"extra variable", []api.Rule{ab, rule(f("h", v("x")), f("f", v("x"), v("y")))}, api.ErrVar},
		oddSystem{"variable on the left after terms without linear functions", []api.Rule{rule(f("g"), tower(3, "q", f("b"))), rule(v("x"), f("a"))}, api.ErrVar},
	)
}

// oddMatrices is no interpretation, with its error.
type oddMatrices struct {
	name string
	interpretation
	e api.Errno
}

// oddNames returns strings that are no names of function symbols.
func oddNames() []string {
	return []string{"", "#", "a b", "a##", "a#b", "#a", "é", "f(", "a\x00", "a-", strings.Repeat("f", api.MaxName+1), strings.Repeat("f", api.MaxName) + "#"}
}

// filled returns a matrix of these numbers of rows and columns, in which all elements are n.
func filled(rows, columns int, n uint64) [][]uint64 {
	var list [][]uint64
	for range rows {
		list = append(list, slices.Repeat([]uint64{n}, columns))
	}
	return list
}

// oddEntries returns interpretations of one symbol that are malformed or have large elements.
func oddEntries(dim int) []oddMatrices {
	var list []oddMatrices
	add := func(name string, e api.Errno, vec []uint64, mats ...[][]uint64) {
		l := interpretation{dim, []api.Matrix{{Name: "g", Vec: vec, Mats: mats}}}
		list = append(list, oddMatrices{fmt.Sprint("dimension ", dim, ": ", name), l, e})
	}
	vec, mat := make([]uint64, dim), filled(dim, dim, 1)
	large, largeMat := slices.Repeat([]uint64{api.MaxCoef + 1}, dim), filled(dim, dim, math.MaxUint64)
	add("no vector", api.ErrForm, nil)
	add("no vector, with matrices", api.ErrForm, nil, mat, mat)
	add("short vector", api.ErrForm, vec[1:], mat)
	add("long vector", api.ErrForm, make([]uint64, dim+1))
	add("very long vector", api.ErrForm, make([]uint64, 5000))
	add("long vector of large numbers", api.ErrForm, append(large, large...))
	add("nine matrices", api.ErrForm, vec, slices.Repeat([][][]uint64{mat}, api.MaxArity+1)...)
	add("nine large matrices", api.ErrForm, large, slices.Repeat([][][]uint64{largeMat}, api.MaxArity+1)...)
	add("thousands of matrices", api.ErrForm, vec, slices.Repeat([][][]uint64{nil}, 5000)...)
	add("no rows", api.ErrForm, vec, nil)
	add("no rows, last", api.ErrForm, vec, mat, mat, nil)
	add("empty rows", api.ErrForm, vec, filled(dim, 0, 0))
	add("a row less", api.ErrForm, vec, filled(dim-1, dim, 0))
	add("a row more", api.ErrForm, vec, mat, filled(dim+1, dim, 0))
	add("a column less", api.ErrForm, vec, filled(dim, dim-1, 0))
	add("a column more", api.ErrForm, vec, filled(dim, dim+1, 0), mat)
	add("a row more, large", api.ErrForm, large, largeMat, filled(dim+1, dim, api.MaxCoef+1))
	add("a large matrix before one with a column more", api.ErrForm, vec, largeMat, filled(dim, dim+1, 0))
	for i := range dim {
		rows := filled(dim, dim, 1)
		rows[i] = rows[i][1:]
		add(fmt.Sprint("an element less in row ", i), api.ErrForm, vec, mat, rows)
		rows = filled(dim, dim, 1)
		rows[i] = append(rows[i], 1)
		add(fmt.Sprint("an element more in row ", i), api.ErrForm, large, rows, mat)
		rows = filled(dim, dim, 1)
		rows[i] = nil
		add(fmt.Sprint("nothing in row ", i), api.ErrForm, vec, rows)
		for _, n := range []uint64{api.MaxCoef + 1, math.MaxUint64, 1 << 63} {
			high := make([]uint64, dim)
			high[i] = n
			add(fmt.Sprint(n, " in the vector at ", i), api.ErrArg, high, mat)
			add(fmt.Sprint(n, " in the vector alone at ", i), api.ErrArg, high)
			for j := range dim {
				rows := filled(dim, dim, api.MaxCoef)
				rows[i][j] = n
				add(fmt.Sprint(n, " in a matrix at ", i, " ", j), api.ErrArg, vec, rows)
				add(fmt.Sprint(n, " in the last matrix at ", i, " ", j), api.ErrArg, vec, mat, mat, rows)
			}
		}
	}
	return list
}

// oddInterpretations returns dimensions and lists that are no interpretations.
func oddInterpretations(dim int) []oddMatrices {
	a := api.Matrix{Name: "a", Vec: make([]uint64, dim)}
	b, plain := a, a
	b.Name, plain.Name = "b", "z"
	odd := api.Matrix{Name: "A", Vec: slices.Repeat([]uint64{math.MaxUint64}, 9)}
	var list []oddMatrices
	add := func(name string, e api.Errno, l ...api.Matrix) {
		list = append(list, oddMatrices{fmt.Sprint("dimension ", dim, ": ", name), interpretation{dim, l}, e})
	}
	for _, n := range []int{0, -1, api.MaxDim + 1, math.MaxInt, math.MinInt} {
		for _, l := range [][]api.Matrix{nil, {a}, {odd}, {odd, a, a}, slices.Repeat([]api.Matrix{{Name: "-"}}, 5000)} {
			list = append(list, oddMatrices{fmt.Sprint("dimension ", n), interpretation{n, l}, api.ErrArg})
		}
	}
	for _, name := range oddNames() {
		add("alone "+name, api.ErrForm, api.Matrix{Name: name, Vec: a.Vec})
		add("after "+name, api.ErrForm, odd, api.Matrix{Name: name})
		add("first "+name, api.ErrForm, api.Matrix{Name: name, Vec: a.Vec}, plain)
	}
	add("equal names", api.ErrForm, a, a)
	add("decreasing names", api.ErrForm, b, a)
	add("names not in byte order", api.ErrForm, a, api.Matrix{Name: "B", Vec: a.Vec})
	add("mark before no mark", api.ErrForm, api.Matrix{Name: "a#", Vec: a.Vec}, a)
	add("longer before shorter", api.ErrForm, api.Matrix{Name: "aa", Vec: a.Vec}, a)
	add("decreasing names after a large vector", api.ErrForm, odd, b, a)
	add("too many", api.ErrLimit, symbols(dim, api.MaxSymbols+1).list...)
	add("too many, all odd", api.ErrLimit, slices.Repeat([]api.Matrix{{Name: "-"}}, 5000)...)
	entries := oddEntries(dim)
	for i, x := range entries {
		list = append(list, x)
		add(x.name+" last", x.e, a, x.list[0])
		add(x.name+" first", x.e, x.list[0], plain)
		y := entries[(i+len(entries)/2)%len(entries)]
		next := y.list[0]
		next.Name = "h"
		add(x.name+", then "+y.name, x.e, x.list[0], next) // the first symbol decides
	}
	return list
}

// symbols returns an interpretation of so many symbols with one argument: f0017 is its argument plus 17 in each element.
func symbols(dim, n int) interpretation {
	l := interpretation{dim: dim}
	for i := range n {
		x := api.Matrix{Name: fmt.Sprintf("f%04d", i), Vec: slices.Repeat([]uint64{uint64(i)}, dim)}
		x.Mats = [][][]uint64{identity(dim).rows()}
		l.list = append(l.list, x)
	}
	return l
}

package term_test

import (
	"fmt"
	"math"
	"slices"
	"testing"

	"dwindle/api"
	"dwindle/term"
)

// P1.5

func TestPositions(t *testing.T) {
	for _, x := range []struct {
		t    api.Term
		list string
	}{
		{v("x"), "[[]]"},
		{f("c"), "[[]]"},
		{f("f", v("x"), f("g", v("y")), v("x")), "[[] [0] [1] [1 0] [2]]"},
		{f("f", f("g", f("h", v("x"), v("y")), v("z")), f("h", v("x"), f("c"))), "[[] [0] [0 0] [0 0 0] [0 0 1] [0 1] [1] [1 0] [1 1]]"},
		{chain(3, v("x")), "[[] [0] [0 0] [0 0 0]]"},
		{chain(4, f("f", v("x"), v("x"))), "[[] [0] [0 0] [0 0 0] [0 0 0 0] [0 0 0 0 0] [0 0 0 0 1]]"},
	} {
		if l, e := term.Positions(x.t); fmt.Sprint(l) != x.list || e != api.OK {
			t.Error(show(x.t), l, e)
		}
	}
	if l, e := term.Positions(wide(api.MaxSize, f("c"))); len(l) != api.MaxSize || e != api.OK {
		t.Error(len(l), e)
	}
	for _, x := range odd() {
		if l, e := term.Positions(x.t); len(l) > 0 || e != x.e {
			t.Error(x.name, l, e)
		}
	}
}

func TestPositionsMemory(t *testing.T) {
	a := v("x")
	for range 7 {
		a = f("f", a, f("g", a), f("c"))
	}
	l, _ := term.Positions(a)
	for i, p := range l {
		p = p[:cap(p)]
		for j := range p {
			p[j] = i
		}
	}
	for i, p := range l {
		for _, x := range p {
			if x != i {
				t.Error("two positions share memory", i, x)
			}
		}
	}
}

func TestAt(t *testing.T) {
	a := f("f", v("x"), f("g", v("y"), f("c")), v("x"))
	for _, x := range []struct {
		pos  []int
		want api.Term
	}{
		{nil, a}, {[]int{}, a}, {[]int{0}, v("x")}, {[]int{1}, f("g", v("y"), f("c"))}, {[]int{1, 0}, v("y")}, {[]int{1, 1}, f("c")}, {[]int{2}, v("x")},
	} {
		y, e := term.At(a, x.pos)
		expectTerm(t, fmt.Sprint(x.pos), y, e, x.want)
	}
	for _, pos := range missing() {
		y, e := term.At(a, pos)
		expectNone(t, fmt.Sprint(pos), y, e, api.ErrRange)
	}
	for _, x := range odd() {
		y, e := term.At(x.t, []int{-1})
		expectNone(t, x.name, y, e, x.e)
		y, e = term.At(x.t, nil)
		expectNone(t, x.name, y, e, x.e)
	}
}

// missing returns slices that are no positions of the terms of TestAt and TestPut.
func missing() [][]int {
	return [][]int{{3}, {-1}, {0, 0}, {1, 2}, {1, -1}, {1, 1, 0}, {2, 0}, {8}, {math.MaxInt}, {math.MinInt}, make([]int, 300)}
}

func TestPut(t *testing.T) {
	a := f("f", v("x"), f("g", v("y"), f("c")), v("x"))
	h := f("h", v("z"))
	for _, x := range []struct {
		pos  []int
		want api.Term
	}{
		{nil, h},
		{[]int{0}, f("f", h, f("g", v("y"), f("c")), v("x"))},
		{[]int{1}, f("f", v("x"), h, v("x"))},
		{[]int{1, 0}, f("f", v("x"), f("g", h, f("c")), v("x"))},
		{[]int{1, 1}, f("f", v("x"), f("g", v("y"), h), v("x"))},
		{[]int{2}, f("f", v("x"), f("g", v("y"), f("c")), h)},
	} {
		y, e := term.Put(a, x.pos, h)
		expectTerm(t, fmt.Sprint(x.pos), y, e, x.want)
	}
}

func TestPutErrors(t *testing.T) {
	a := f("f", v("x"), f("g", v("y"), f("c")), v("x"))
	for _, pos := range missing() {
		y, e := term.Put(a, pos, f("h"))
		expectNone(t, fmt.Sprint(pos), y, e, api.ErrRange)
		y, e = term.Put(a, pos, f(""))
		expectNone(t, "range comes before x", y, e, api.ErrRange)
	}
	for _, x := range odd() {
		y, e := term.Put(x.t, []int{-1}, f(""))
		expectNone(t, x.name, y, e, x.e)
		y, e = term.Put(a, []int{1}, x.t)
		expectNone(t, x.name, y, e, x.e)
	}
}

func TestPutLimits(t *testing.T) {
	deep := chain(100, v("x"))
	pos := make([]int, 100)
	y, e := term.Put(deep, pos, chain(99, f("c")))
	expectTerm(t, "deepest", y, e, chain(199, f("c")))
	y, e = term.Put(deep, pos, chain(100, f("c")))
	expectNone(t, "too deep", y, e, api.ErrLimit)
	y, e = term.Put(deep, pos[:50], chain(100, f("c")))
	expectTerm(t, "the deepest part is replaced", y, e, chain(150, f("c")))
	large := f("f", wide(3000, f("c")), f("c"))
	y, e = term.Put(large, []int{1}, wide(999, v("x")))
	if e != api.OK || term.Size(y) != api.MaxSize {
		t.Error(e)
	}
	y, e = term.Put(large, []int{1}, wide(1000, v("x")))
	expectNone(t, "too large", y, e, api.ErrLimit)
	y, e = term.Put(large, []int{0}, wide(3998, v("x")))
	if e != api.OK || term.Size(y) != api.MaxSize {
		t.Error(e)
	}
}

func TestPlaceMemory(t *testing.T) {
	a, x := f("f", f("g", v("x"), f("c")), f("h", v("y"))), f("k", f("m", v("z")))
	inA, inX := show(a), show(x)
	for _, pos := range [][]int{nil, {0}, {1}, {0, 1}} {
		y, _ := term.At(a, pos)
		spoil(y)
		y, _ = term.Put(a, pos, x)
		spoil(y)
	}
	room := append(make([]api.Term, 0, 4), f("c"))
	y, _ := term.At(api.Term{Name: "c", Args: room[:0]}, nil)
	spoil(y)
	y, _ = term.At(f("h", api.Term{Name: "x", Var: true, Args: room[:0]}), []int{0})
	spoil(y)
	if show(a) != inA || show(x) != inX || room[0].Name != "c" {
		t.Error("a result shares memory with an argument", show(a), show(x), room)
	}
}

// P1.9

func TestReplacement(t *testing.T) {
	small := terms("x")
	for _, a := range deepTerms("x") {
		list, e := term.Positions(a)
		expect(t, "Positions", e, api.OK)
		if len(list) != term.Size(a) {
			t.Fatal(show(a), list)
		}
		for _, p := range list {
			sub, e := term.At(a, p)
			expect(t, "At", e, api.OK)
			back, e := term.Put(a, p, sub)
			expectTerm(t, "Put of At", back, e, a)
			for _, x := range small {
				y, e := term.Put(a, p, x)
				expect(t, "Put", e, api.OK)
				z, e := term.At(y, p)
				expectTerm(t, "At of Put", z, e, x)
			}
		}
	}
}

func TestParallelReplacements(t *testing.T) {
	x, y := f("k", v("u")), f("m", f("c"), v("x"))
	for _, a := range deepTerms("x") {
		list, _ := term.Positions(a)
		for _, p := range list {
			for _, q := range list {
				n := min(len(p), len(q))
				if slices.Equal(p[:n], q[:n]) {
					continue
				}
				one, _ := term.Put(a, p, x)
				one, e := term.Put(one, q, y)
				expect(t, "Put", e, api.OK)
				two, _ := term.Put(a, q, y)
				two, e = term.Put(two, p, x)
				expectTerm(t, "parallel", two, e, one)
			}
		}
	}
}

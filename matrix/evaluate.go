package matrix

import (
	"slices"
	"strings"

	"dwindle/api"
	"dwindle/term"
)

// interpretation is a dimension and a list of matrices without errors.
type interpretation struct {
	dim  int
	list []api.Matrix
}

// entry returns the vector and the matrices of a symbol, or false if the symbol is not listed.
func (l interpretation) entry(name string) (api.Matrix, bool) {
	i, listed := slices.BinarySearchFunc(l.list, name, func(x api.Matrix, name string) int { return strings.Compare(x.Name, name) })
	if !listed {
		return api.Matrix{}, false
	}
	return l.list[i], true
}

// fits reports whether a symbol has as many arguments as its interpretation has matrices.
func (l interpretation) fits(x api.Symbol) bool {
	entry, listed := l.entry(x.Name)
	return !listed || len(entry.Mats) == x.Arity
}

// fitsTerm reports whether all symbols of a valid term fit.
func (l interpretation) fitsTerm(t api.Term) bool {
	if !t.Var && !l.fits(api.Symbol{Name: t.Name, Arity: len(t.Args)}) {
		return false
	}
	return !slices.ContainsFunc(t.Args, func(x api.Term) bool { return !l.fitsTerm(x) })
}

// isMonotone reports whether the first element of each matrix of a symbol that fits is positive.
func (l interpretation) isMonotone(x api.Symbol) bool {
	entry, _ := l.entry(x.Name)
	return !slices.ContainsFunc(entry.Mats, func(rows [][]uint64) bool { return rows[0][0] == 0 })
}

// of returns the linear function of any term and the variables of the term in increasing order, or the errors of Of.
func (l interpretation) of(t api.Term) (linear, []string, api.Errno) {
	names, e := term.Vars(t)
	if e != api.OK {
		return linear{}, nil, e
	}
	if len(names) > api.MaxMonos {
		return linear{}, nil, api.ErrLimit
	}
	if !l.fitsTerm(t) {
		return linear{}, nil, api.ErrOrder
	}
	f, ok := l.evaluate(t)
	if !ok {
		return linear{}, nil, api.ErrLimit
	}
	return f, names, api.OK
}

// evaluate returns the linear function of a term, or false if that of one of its subterms is outside the limits.
func (l interpretation) evaluate(t api.Term) (linear, bool) {
	if t.Var {
		return variable(l.dim, t.Name), true
	}
	entry, listed := l.entry(t.Name)
	sum := constant(entry.Vec)
	for i, x := range t.Args {
		value, ok := l.evaluate(x)
		if ok && listed {
			ok = value.multiply(entry.Mats[i])
		}
		if !ok || !sum.add(value) {
			return linear{}, false
		}
	}
	return sum, true
}

// compare returns the result of Compare.
func (l interpretation) compare(s, t api.Term) (int, api.Errno) {
	f, _, e := l.of(s)
	if e != api.OK {
		return 0, e
	}
	g, _, e := l.of(t)
	if e != api.OK {
		return 0, e
	}
	return f.compare(g), api.OK
}

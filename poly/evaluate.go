package poly

import (
	"slices"
	"strings"

	"dwindle/api"
	"dwindle/term"
)

// interpretation is a list of polynomials without errors.
type interpretation []api.Poly

// monos returns the monomials of a symbol, or false if the symbol is not listed.
func (l interpretation) monos(name string) ([]api.Mono, bool) {
	i, listed := slices.BinarySearchFunc(l, name, func(x api.Poly, name string) int { return strings.Compare(x.Name, name) })
	if !listed {
		return nil, false
	}
	return l[i].Monos, true
}

// fits reports whether a symbol has as many arguments as its polynomial. The zero polynomial has any number.
func (l interpretation) fits(x api.Symbol) bool {
	monos, _ := l.monos(x.Name)
	return len(monos) == 0 || len(monos[0].Exps) == x.Arity
}

// fitsTerm reports whether all symbols of a valid term fit.
func (l interpretation) fitsTerm(t api.Term) bool {
	if !t.Var && !l.fits(api.Symbol{Name: t.Name, Arity: len(t.Args)}) {
		return false
	}
	return !slices.ContainsFunc(t.Args, func(x api.Term) bool { return !l.fitsTerm(x) })
}

// isMonotone reports whether the interpretation of a symbol that fits is strictly monotone in each of its arguments.
func (l interpretation) isMonotone(x api.Symbol) bool {
	monos, listed := l.monos(x.Name)
	if !listed {
		return true
	}
	for arg := range x.Arity {
		if !slices.ContainsFunc(monos, func(m api.Mono) bool { return isPower(m, arg) }) {
			return false
		}
	}
	return true
}

// isPower reports whether an argument has a positive exponent in a monomial and all others have exponent 0.
func isPower(m api.Mono, arg int) bool {
	for i, exp := range m.Exps {
		if (exp > 0) != (i == arg) {
			return false
		}
	}
	return true
}

// evaluator evaluates terms. It keeps the places of variables in products, so that the polynomials of several terms can
// be compared.
type evaluator struct {
	interpretation
	places map[string]int
}

// newEvaluator returns an evaluator for an interpretation without errors.
func newEvaluator(l []api.Poly) evaluator {
	return evaluator{l, map[string]int{}}
}

// of returns the polynomial of any term and the variables of the term in increasing order, or the errors of Of.
func (v evaluator) of(t api.Term) (polynomial, []string, api.Errno) {
	names, e := term.Vars(t)
	if e != api.OK {
		return nil, nil, e
	}
	if len(names) > api.MaxMonos {
		return nil, nil, api.ErrLimit
	}
	if !v.fitsTerm(t) {
		return nil, nil, api.ErrOrder
	}
	for _, name := range names {
		if _, known := v.places[name]; !known {
			v.places[name] = len(v.places)
		}
	}
	p, ok := v.evaluate(t)
	if !ok {
		return nil, nil, api.ErrLimit
	}
	return p, names, api.OK
}

// evaluate returns the polynomial of a term, or false if that of one of its subterms is outside the limits.
func (v evaluator) evaluate(t api.Term) (polynomial, bool) {
	if t.Var {
		return variable(v.places[t.Name]), true
	}
	args := make([]polynomial, len(t.Args))
	for i, x := range t.Args {
		arg, ok := v.evaluate(x)
		if !ok {
			return nil, false
		}
		args[i] = arg
	}
	if monos, listed := v.monos(t.Name); listed {
		return substitute(monos, args, 0)
	}
	sum, ok := polynomial{}, true
	for _, arg := range args {
		if sum, ok = sum.plus(arg); !ok {
			return nil, false
		}
	}
	return sum, true
}

// substitute returns the value of monomials at args from the argument at on; they are in increasing order and agree in
// the exponents before it. It follows Horner's scheme. A result on the way is, times a polynomial that is not 0, a part of
// the value, and so it is within the limits if the value is.
func substitute(monos []api.Mono, args []polynomial, at int) (polynomial, bool) {
	if len(monos) == 0 {
		return polynomial{}, true
	}
	if at == len(args) {
		return polynomial{one: monos[0].Coef}, true
	}
	if len(args[at]) == 0 {
		return substitute(monos[:countBelow(monos, at, 1)], args, at+1)
	}
	sum := polynomial{}
	for exp := monos[len(monos)-1].Exps[at]; exp >= 0; exp-- {
		product, ok := sum.times(args[at])
		if !ok {
			return nil, false
		}
		count := countBelow(monos, at, exp)
		value, ok := substitute(monos[count:], args, at+1)
		if !ok {
			return nil, false
		}
		if sum, ok = product.plus(value); !ok {
			return nil, false
		}
		monos = monos[:count]
	}
	return sum, true
}

// countBelow returns the number of monomials with a smaller exponent of an argument, where they are ordered by it.
func countBelow(monos []api.Mono, arg, exp int) int {
	count, _ := slices.BinarySearchFunc(monos, exp, func(x api.Mono, exp int) int { return x.Exps[arg] - exp })
	return count
}

// evalMono returns the value of a monomial, or false if it is too large.
func evalMono(m api.Mono, values []uint64) (uint64, bool) {
	for i, exp := range m.Exps {
		if exp > 0 && values[i] == 0 {
			return 0, true
		}
	}
	result, ok := m.Coef, true
	for i, exp := range m.Exps {
		// A factor 1 changes nothing, and any other one doubles the result at least.
		for ; exp > 0 && values[i] > 1 && result > 0; exp-- {
			if result, ok = multiply(result, values[i]); !ok {
				return 0, false
			}
		}
	}
	return result, true
}

package poly

import (
	"iter"
	"maps"
	"math/bits"
	"slices"

	"dwindle/api"
)

// polynomial maps products of powers of variables to their coefficients, which are not 0. A product is a string of the
// exponents of the variables, each of them with width bytes and the highest byte first. Exponents 0 at its end are left
// out. So the byte order of products is the lexicographic order of their exponents.
type polynomial map[string]uint64

const (
	width = 3  // bytes of an exponent, which is at most twice MaxCoef before it is checked
	one   = "" // the product of no powers
)

// variable returns the polynomial of the variable at a place.
func variable(place int) polynomial {
	product := make([]byte, width*(place+1))
	putExponent(product, place, 1)
	return polynomial{string(product): 1}
}

// products visits the products of a polynomial in increasing order, with their coefficients.
func (p polynomial) products() iter.Seq2[string, uint64] {
	return func(yield func(string, uint64) bool) {
		for _, product := range slices.Sorted(maps.Keys(p)) {
			if !yield(product, p[product]) {
				return
			}
		}
	}
}

// monos returns the monomials of a polynomial in so many variables.
func (p polynomial) monos(vars int) []api.Mono {
	var list []api.Mono
	for product, coef := range p.products() {
		exps := make([]int, vars)
		for place := range len(product) / width {
			exps[place] = exponent(product, place)
		}
		list = append(list, api.Mono{Coef: coef, Exps: exps})
	}
	return list
}

// compare returns 2 if no coefficient is smaller than that of q and the constant one is greater, 1 if no coefficient is
// smaller and the constant ones are equal, and 0 otherwise.
func (p polynomial) compare(q polynomial) int {
	for product, coef := range q.products() {
		if p[product] < coef {
			return 0
		}
	}
	if p[one] > q[one] {
		return 2
	}
	return 1
}

// plus returns p plus q, or false if it is outside the limits. Neither of them may be used again.
func (p polynomial) plus(q polynomial) (polynomial, bool) {
	if len(p) < len(q) {
		p, q = q, p
	}
	for product, coef := range q {
		if !p.add(product, coef) {
			return nil, false
		}
	}
	return p, true
}

// add adds a monomial to p, and reports whether p stays within the limits.
func (p polynomial) add(product string, coef uint64) bool {
	sum := p[product] + coef
	p[product] = sum
	return sum <= api.MaxValue && len(p) <= api.MaxTerms
}

// times returns p times q, or false if it is outside the limits.
func (p polynomial) times(q polynomial) (polynomial, bool) {
	// As no coefficient is negative, the result has at least so many products, unless p or q is 0. Then there are fewer of
	// them than the limit.
	if len(p)+len(q)-1 > api.MaxTerms {
		return nil, false
	}
	result := make(polynomial, min(len(p)*len(q), api.MaxTerms))
	for a, x := range p {
		for b, y := range q {
			product, fits := multiplyProducts(a, b)
			coef, ok := multiply(x, y)
			if !fits || !ok || !result.add(product, coef) {
				return nil, false
			}
		}
	}
	return result, true
}

// multiplyProducts returns the product of two products, or false if an exponent is too large.
func multiplyProducts(a, b string) (string, bool) {
	if len(a) < len(b) {
		a, b = b, a
	}
	if b == one {
		return a, true
	}
	product := []byte(a)
	for place := range len(b) / width {
		exp := exponent(a, place) + exponent(b, place)
		if exp > api.MaxCoef {
			return one, false
		}
		putExponent(product, place, exp)
	}
	return string(product), true
}

// exponent returns the exponent at a place of a product.
func exponent(product string, place int) int {
	at := product[width*place:][:width]
	return int(at[0])<<16 | int(at[1])<<8 | int(at[2])
}

// putExponent writes the exponent at a place of a product.
func putExponent(product []byte, place, exp int) {
	at := product[width*place:][:width]
	at[0], at[1], at[2] = byte(exp>>16), byte(exp>>8), byte(exp)
}

// multiply returns the product of two numbers, or false if it is too large.
func multiply(a, b uint64) (uint64, bool) {
	high, low := bits.Mul64(a, b)
	if high > 0 || low > api.MaxValue {
		return 0, false
	}
	return low, true
}

package weight

import (
	"slices"
	"strings"

	"dwindle/api"
)

// order is a weight order without errors.
type order struct {
	ranks []api.Rank
	unit  int
}

// entry returns the rank and the weight of a symbol, both 0 if it is not listed.
func (o order) entry(name string) api.Rank {
	compare := func(x api.Rank, name string) int { return strings.Compare(x.Name, name) }
	i, listed := slices.BinarySearchFunc(o.ranks, name, compare)
	if !listed {
		return api.Rank{Name: name}
	}
	return o.ranks[i]
}

// isAdmissible reports whether the order is admissible for symbols, which may be listed several times.
func (o order) isAdmissible(symbols []api.Symbol) bool {
	set := map[api.Symbol]bool{}
	for _, x := range symbols {
		set[x] = true
	}
	for x := range set {
		weight := o.entry(x.Name).Weight
		if x.Arity == 0 && weight < o.unit {
			return false
		}
		if x.Arity == 1 && weight == 0 && !o.isTop(x, set) {
			return false
		}
	}
	return true
}

// isTop reports whether a symbol has a greater rank than all others.
func (o order) isTop(top api.Symbol, set map[api.Symbol]bool) bool {
	rank := o.entry(top.Name).Rank
	for x := range set {
		if x != top && o.entry(x.Name).Rank >= rank {
			return false
		}
	}
	return true
}

// weight returns the weight of a valid term.
func (o order) weight(t api.Term) int {
	if t.Var {
		return o.unit
	}
	sum := o.entry(t.Name).Weight
	for _, x := range t.Args {
		sum += o.weight(x)
	}
	return sum
}

// isGreater reports whether s is greater than t, both valid.
func (o order) isGreater(s, t api.Term) bool {
	d := difference{order: o, surplus: map[string]int{}}
	return d.compare(s, t) == greater
}

// relation says how one term is related to another one.
type relation int

const (
	unrelated relation = iota // neither equal nor greater
	equal
	greater
)

// difference is what the first one of two terms has more than the second one. It grows while the terms are compared, so
// that no node is visited more than once.
type difference struct {
	order   order
	weight  int
	surplus map[string]int // how much more often each variable occurs in the first term
	lacking int            // the number of variables that occur more often in the second term
}

// compare compares two terms, and adds their difference to one that is zero.
func (d *difference) compare(s, t api.Term) relation {
	symbols := d.compareSymbols(s, t)
	switch {
	case symbols == equal:
		return equal
	case d.lacking > 0 || d.weight < 0:
		return unrelated
	case d.weight > 0:
		return greater
	}
	return symbols
}

// compareSymbols compares two terms as if their weights were equal and no variable were lacking, and adds their
// difference to one that is zero.
func (d *difference) compareSymbols(s, t api.Term) relation {
	if s.Var == t.Var && s.Name == t.Name && len(s.Args) == len(t.Args) {
		return d.compareArgs(s.Args, t.Args)
	}
	d.add(s, 1)
	d.add(t, -1)
	if !s.Var && (t.Var || d.order.entry(s.Name).Rank > d.order.entry(t.Name).Rank) {
		return greater
	}
	return unrelated
}

// compareArgs compares lists of arguments by the first ones that differ. Before these the difference is still zero, as the
// arguments to their left are equal.
func (d *difference) compareArgs(s, t []api.Term) relation {
	for i := range s {
		first := d.compare(s[i], t[i])
		if first == equal {
			continue
		}
		for j := i + 1; j < len(s); j++ {
			d.add(s[j], 1)
			d.add(t[j], -1)
		}
		return first
	}
	return equal
}

// add adds a term of the first side (sign 1) or of the second side (sign -1).
func (d *difference) add(t api.Term, sign int) {
	if !t.Var {
		d.weight += sign * d.order.entry(t.Name).Weight
		for _, x := range t.Args {
			d.add(x, sign)
		}
		return
	}
	d.weight += sign * d.order.unit
	if d.surplus[t.Name] < 0 {
		d.lacking--
	}
	d.surplus[t.Name] += sign
	if d.surplus[t.Name] < 0 {
		d.lacking++
	}
}

package path

import "dwindle/api"

// node is a term whose symbols have their ranks. A node may be compared with thousands of others, so its rank is not
// searched for each time.
type node struct {
	api.Term
	rank int
	args []node
}

// ranked returns the node of a valid term.
func ranked(l []api.Rank, t api.Term) node {
	n := node{Term: t}
	if t.Var {
		return n
	}
	n.rank = rank(l, t.Name)
	for _, x := range t.Args {
		n.args = append(n.args, ranked(l, x))
	}
	return n
}

// relation says how one term is related to another one.
type relation int

const (
	unrelated relation = iota // neither equal nor greater
	equal
	greater
)

// isGreater reports whether s is greater than t, both valid.
func isGreater(l []api.Rank, s, t api.Term) bool {
	a, b := ranked(l, s), ranked(l, t)
	return compare(&a, &b) == greater
}

// compare tries only the case of the definition that can decide. This suffices, as the order is transitive and a term is
// greater than its subterms: if an argument of s is equal to t or greater, s is greater than the arguments of t as well.
// So each pair of subterms is compared at most once, while the definition, taken literally, takes exponential time.
func compare(s, t *node) relation {
	switch {
	case s.Var && t.Var && s.Name == t.Name:
		return equal
	case s.Var:
		return unrelated
	case t.Var:
		return within(s.args, t)
	case s.rank > t.rank:
		return above(s, t.args)
	case s.Name == t.Name && len(s.args) == len(t.args):
		return inOrder(s, t)
	}
	return within(s.args, t)
}

// within returns greater if one of the arguments of a term is equal to t or greater than t.
func within(args []node, t *node) relation {
	for i := range args {
		if compare(&args[i], t) != unrelated {
			return greater
		}
	}
	return unrelated
}

// above returns greater if s is greater than all of the arguments of a term.
func above(s *node, args []node) relation {
	for i := range args {
		if compare(s, &args[i]) != greater {
			return unrelated
		}
	}
	return greater
}

// inOrder compares two terms with the same symbol. The first arguments that differ decide: s is greater than those of t
// up to there, and those of s up to there are not greater than t.
func inOrder(s, t *node) relation {
	for i := range s.args {
		switch compare(&s.args[i], &t.args[i]) {
		case greater:
			return above(s, t.args[i+1:])
		case unrelated:
			return within(s.args[i+1:], t)
		}
	}
	return equal
}

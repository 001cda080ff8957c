// Package term (layer 1): terms, positions and substitutions. See shared/doc/01-term.md.
package term

import (
	"cmp"
	"maps"
	"slices"
	"strings"

	"dwindle/api"
)

// IsName reports whether s is the name of a function symbol (marked) or of a variable.
func IsName(s string, marked bool) bool {
	base := s
	if marked {
		base = strings.TrimSuffix(s, "#")
	}
	return len(base) > 0 && len(s) <= api.MaxName && isPlain(base)
}

// isPlain reports whether all bytes of s may stand anywhere in a name.
func isPlain(s string) bool {
	for i := range len(s) {
		c := s[i]
		letter := 'a' <= c && c <= 'z' || 'A' <= c && c <= 'Z'
		digit := '0' <= c && c <= '9'
		if !letter && !digit && c != '_' && c != '\'' {
			return false
		}
	}
	return true
}

// Check returns the errors of a term: ErrForm, then ErrLimit.
func Check(t api.Term) api.Errno {
	size, deepest := 0, 0
	for depth, x := range nodes(t) {
		if !isFormed(x) {
			return api.ErrForm
		}
		size++
		deepest = max(deepest, depth)
		if size > api.MaxSize {
			break
		}
	}
	if size > api.MaxSize && hasMalformed(t) {
		return api.ErrForm
	}
	if size > api.MaxSize || deepest > api.MaxDeep {
		return api.ErrLimit
	}
	return api.OK
}

// isFormed reports whether a node has the form of a variable or of a function symbol, whatever its arguments are.
func isFormed(x api.Term) bool {
	if x.Var {
		return IsName(x.Name, false) && len(x.Args) == 0
	}
	return IsName(x.Name, true) && len(x.Args) <= api.MaxArity
}

// hasMalformed looks for a node that is not formed. Arguments may share memory, so that a few slices are a term of
// more nodes than can be visited: arguments that were seen before are not visited again.
func hasMalformed(t api.Term) bool {
	seen := map[*api.Term]int{} // the number of arguments that were seen from this one on
	stack := []api.Term{t}
	for len(stack) > 0 {
		x := stack[len(stack)-1]
		stack = stack[:len(stack)-1]
		if !isFormed(x) {
			return true
		}
		if len(x.Args) > 0 && seen[&x.Args[0]] < len(x.Args) {
			seen[&x.Args[0]] = len(x.Args)
			stack = append(stack, x.Args...)
		}
	}
	return false
}

// Size returns the number of nodes of any term.
func Size(t api.Term) int {
	size := 0
	for range nodes(t) {
		size++
	}
	return size
}

// Depth returns the depth of any term.
func Depth(t api.Term) int {
	deepest := 0
	for depth := range nodes(t) {
		deepest = max(deepest, depth)
	}
	return deepest
}

// Count returns the number of occurrences of the variable v in any term.
func Count(t api.Term, v string) int {
	count := 0
	for _, x := range nodes(t) {
		if x.Var && x.Name == v {
			count++
		}
	}
	return count
}

// Equal reports whether any two terms are equal in all fields.
func Equal(a, b api.Term) bool {
	return Compare(a, b) == 0
}

// Compare orders any two terms: variables first, then by names, numbers of arguments, and arguments.
func Compare(a, b api.Term) int {
	if a.Var != b.Var {
		if a.Var {
			return -1
		}
		return 1
	}
	if c := cmp.Or(strings.Compare(a.Name, b.Name), cmp.Compare(len(a.Args), len(b.Args))); c != 0 {
		return c
	}
	return slices.CompareFunc(a.Args, b.Args, Compare)
}

// Vars returns the names of the variables of t in increasing order.
func Vars(t api.Term) ([]string, api.Errno) {
	if e := Check(t); e != api.OK {
		return nil, e
	}
	return slices.Sorted(maps.Keys(variables(t))), api.OK
}

package read

import (
	"maps"
	"slices"
	"strings"

	"dwindle/api"
	"dwindle/term"
)

// TermText returns the canonical form of a term.
func TermText(t api.Term) (string, api.Errno) {
	if e := term.Check(t); e != api.OK {
		return "", e
	}
	var b strings.Builder
	writeTerm(&b, t)
	return b.String(), api.OK
}

// SystemText returns the canonical form of a system.
func SystemText(r []api.Rule) (string, api.Errno) {
	symbols, e := term.Symbols(r)
	if e != api.OK {
		return "", e
	}
	vars := variables(r)
	for _, x := range symbols {
		if _, both := slices.BinarySearch(vars, x.Name); both {
			return "", api.ErrName
		}
	}
	var b strings.Builder
	if len(vars) > 0 {
		b.WriteString("(VAR " + strings.Join(vars, " ") + ")\n")
	}
	b.WriteString("(RULES\n")
	for _, x := range r {
		writeRule(&b, x)
	}
	b.WriteString(")\n")
	if b.Len() > api.MaxText {
		return "", api.ErrLimit
	}
	return b.String(), api.OK
}

// variables returns the variables of a system in increasing order; all of them occur in its left sides.
func variables(r []api.Rule) []string {
	set := map[string]bool{}
	for _, x := range r {
		list, _ := term.Vars(x.Left)
		for _, name := range list {
			set[name] = true
		}
	}
	return slices.Sorted(maps.Keys(set))
}

// writeRule writes the line of a rule.
func writeRule(b *strings.Builder, x api.Rule) {
	b.WriteString("  ")
	writeTerm(b, x.Left)
	b.WriteString(" -> ")
	writeTerm(b, x.Right)
	b.WriteString("\n")
}

// writeTerm writes a valid term.
func writeTerm(b *strings.Builder, t api.Term) {
	b.WriteString(t.Name)
	for i, x := range t.Args {
		if i == 0 {
			b.WriteString("(")
		} else {
			b.WriteString(", ")
		}
		writeTerm(b, x)
	}
	if len(t.Args) > 0 {
		b.WriteString(")")
	}
}

package read_test

import (
	"fmt"
	"slices"
	"strings"
	"testing"

	"dwindle/api"
	"dwindle/read"
	"dwindle/term"
)

// terms returns terms over c, h, f, g# and the variables x and y'.
func terms() []api.Term {
	flat := []api.Term{v("x"), v("y'"), f("c"), f("x#")}
	list := slices.Clone(flat)
	for _, a := range flat {
		list = append(list, f("h", a))
		for _, b := range flat {
			list = append(list, f("f", a, b), f("g#", b, f("h", a), b))
		}
	}
	for _, a := range slices.Clone(list) {
		list = append(list, f("h", a), f("f", a, f("f", v("x"), a)))
	}
	return list
}

// P2.6

func TestTermRoundTrip(t *testing.T) {
	list := terms()
	list = append(list, wide(api.MaxSize, 1), f("f", list[:api.MaxArity]...))
	for _, a := range list {
		s, e := read.TermText(a)
		if e != api.OK {
			t.Fatal(a, e)
		}
		vars, _ := term.Vars(a)
		expectTerm(t, s, vars, a)
	}
}

// A name that is a variable and a symbol is a variable when it is read: the proviso of P2.6.
func TestTermRoundTripProviso(t *testing.T) {
	for _, a := range []api.Term{f("f", v("x"), f("x")), f("f", v("x"), f("x", f("c")))} {
		s, _ := read.TermText(a)
		if b, _, e := read.Term(s, []string{"x"}); e == api.OK && term.Equal(a, b) {
			t.Error(s)
		}
	}
}

func TestSystemRoundTrip(t *testing.T) {
	var r []api.Rule
	count := 0
	for _, a := range terms() {
		for _, b := range terms()[:30] {
			rule := api.Rule{Left: a, Right: b}
			if term.CheckSystem([]api.Rule{rule}) != api.OK {
				continue
			}
			expectSystemRoundTrip(t, []api.Rule{rule})
			r = append(r, rule)
			count++
			if len(r) == api.MaxRules {
				expectSystemRoundTrip(t, r)
				r = nil
			}
		}
	}
	if count < 2*api.MaxRules {
		t.Error("too few systems", count)
	}
	expectSystemRoundTrip(t, nil)
	expectSystemRoundTrip(t, rules(f("VAR", v("RULES")), f("VAR", f("c"))))
	expectSystemRoundTrip(t, rules(wide(api.MaxSize, 1), wide(100, 24)))
}

// expectSystemRoundTrip reports a system that is not read back.
func expectSystemRoundTrip(t *testing.T, r []api.Rule) {
	t.Helper()
	s, e := read.SystemText(r)
	if e != api.OK || len(s) > api.MaxSource {
		t.Fatal(r, len(s), e)
	}
	expectSystem(t, s, r)
}

// P2.7

// layouts are what may stand between two tokens; where a token would grow, a blank comes first.
var layouts = []string{"", " ", "\t", "\r", "\n", "\r\n", " \t \n\r "}

// lay returns the tokens with white space of a layout, and the offset of each token and of the end.
func lay(tokens []string, space string) (string, []int) {
	s := space
	var at []int
	for i, x := range tokens {
		if space == "" && i > 0 && isWord(tokens[i-1]) && isWord(x) {
			s += " "
		}
		at = append(at, len(s))
		s += x + space
	}
	return s, append(at, len(s))
}

// isWord reports whether a token is a name, also a malformed one.
func isWord(token string) bool {
	return !slices.Contains([]string{"(", ")", ",", "->"}, token)
}

func TestTermLayout(t *testing.T) {
	for _, x := range [][]string{
		{"x"}, {"c", "(", ")"}, {"f", "(", "x", ",", "g#", "(", "c", ")", ",", "c", "(", ")", ")"},
		{}, {"f", "("}, {"f", "(", "x", "x", ")"}, {"f", ",", "x"}, {"x", "(", ")"}, {"f", "(", "x#x", ")"}, {"f", "(", "x", ")", ")"},
	} {
		expectLayouts(t, x, func(s string) (any, int, api.Errno) { return read.Term(s, []string{"x"}) })
	}
}

func TestSystemLayout(t *testing.T) {
	for _, x := range [][]string{
		{"(", "RULES", ")"},
		{"(", "VAR", "x", "y", ")", "(", "RULES", "f", "(", "x", ",", "y", ")", "->", "c", "c", "->", "d", "(", ")", "d", "->", "d", ")"},
		{"(", "VAR", "x"}, {"(", "VAR", "x", ",", "y", ")"}, {"(", "RULES", "a", "b", ")"}, {"(", "RULES", "a", "->", ")"}, {"(", "RULES", ")", "a"}, {"(", "a"},
	} {
		expectLayouts(t, x, func(s string) (any, int, api.Errno) { return read.System(s) })
	}
}

// expectLayouts reports results, or tokens at which there is an error, that change with the layout.
func expectLayouts(t *testing.T, tokens []string, reader func(string) (any, int, api.Errno)) {
	t.Helper()
	var first string
	for i, space := range layouts {
		s, offsets := lay(tokens, space)
		x, at, e := reader(s)
		place := 0
		if e != api.OK {
			place = slices.Index(offsets, at)
		}
		result := fmt.Sprint(x, place, e)
		if i == 0 {
			first = result
		}
		if result != first {
			t.Errorf("%q: %s, expected %s", s, result, first)
		}
	}
}

// P2.1 and P2.3, for all short sources

// grammar has for each nonterminal its right sides. The terminals are letters for the tokens: n a name of a symbol, m a
// marked one, v a declared variable, V and U the words VAR and RULES, > an arrow. A right side begins with a terminal,
// and every nonterminal has a sentence: a word is the beginning of a sentence if something is left of a form.
var grammar = map[byte][]string{
	'T': {"v", "n", "m", "V", "U", "n()", "m()", "V()", "U()", "n(TL", "m(TL", "V(TL", "U(TL"},
	'L': {")", ",TL"},
	'S': {"(VD", "(UR"},
	'D': {")(UR", "nD", "vD", "VD", "UD"},
	'R': {")"}, // and a rule, which begins with a term: see leaves
}

// tokens are the strings of the terminals.
var tokens = map[byte]string{'n': "f", 'm': "f#", 'v': "x", 'V': "VAR", 'U': "RULES", '(': "(", ')': ")", ',': ",", '>': "->"}

// leaves returns what can be left of a sentential form after its first terminal, which is this one.
func leaves(form string, terminal byte) []string {
	if form == "" {
		return nil
	}
	rest := form[1:]
	if form[0] == terminal && grammar[terminal] == nil {
		return []string{rest}
	}
	var list []string
	for _, right := range grammar[form[0]] {
		list = append(list, leaves(right+rest, terminal)...)
	}
	if form[0] == 'R' {
		list = append(list, leaves("T>TR"+rest, terminal)...)
	}
	return list
}

// firstError returns the number of the first token that is not allowed, or -1 if the word is a sentence.
func firstError(start, word string) int {
	forms := []string{start}
	for i := range len(word) {
		var next []string
		for _, x := range forms {
			next = append(next, leaves(x, word[i])...)
		}
		slices.Sort(next)
		forms = slices.Compact(next)
		if len(forms) == 0 {
			return i
		}
	}
	if slices.Contains(forms, "") {
		return -1
	}
	return len(word)
}

// words returns the words of at most this length that begin with the prefix and have no error before their last letter.
func words(start, prefix, letters string, length int) []string {
	list := []string{prefix}
	at := firstError(start, prefix)
	if len(prefix) >= length || 0 <= at && at < len(prefix) {
		return list
	}
	for i := range len(letters) {
		list = append(list, words(start, prefix+letters[i:i+1], letters, length)...)
	}
	return list
}

func TestTermGrammar(t *testing.T) {
	for _, w := range words("T", "", "nmvVU(),>", 6) {
		expectFirstError(t, "T", w, func(s string) (int, api.Errno) {
			_, at, e := read.Term(s, []string{"x"})
			return at, e
		})
	}
}

func TestSystemGrammar(t *testing.T) {
	list := slices.Concat(words("S", "", "nVU(),>", 6), words("S", "(U", "nV(),>", 8), words("S", "(Vv)(U", "nv(),>", 12))
	for _, w := range list {
		expectFirstError(t, "S", w, func(s string) (int, api.Errno) {
			_, at, e := read.System(s)
			if e == api.ErrName || e == api.ErrVar {
				return at, api.OK
			}
			return at, e
		})
	}
}

// expectFirstError compares a reader with the grammar.
func expectFirstError(t *testing.T, start, word string, reader func(string) (int, api.Errno)) {
	t.Helper()
	var list []string
	for i := range len(word) {
		list = append(list, tokens[word[i]])
	}
	s, offsets := lay(list, " ")
	wantAt, want := 0, api.OK
	if i := firstError(start, word); i >= 0 {
		wantAt, want = offsets[i], api.ErrForm
	}
	if at, e := reader(s); at != wantAt || e != want {
		t.Errorf("%q: offset %d, error %d; expected %d, %d", s, at, e, wantAt, want)
	}
}

// P1 and P2

// Whatever the bytes are, nothing panics, results do not change, and an error has an offset in the source.
func TestAnySource(t *testing.T) {
	seeds := []string{"f(x, g(y), c())", "(VAR x)\n(RULES f(x) -> x)", "1.0.7", strings.Repeat("f(", 300)}
	state := uint32(1)
	random := func(n int) int {
		state = state*1664525 + 1013904223
		return int(state>>8) % n
	}
	for range 20000 {
		b := []byte(seeds[random(len(seeds))])
		for range random(4) {
			b[random(len(b))] = byte(random(256))
		}
		s := string(b[:random(len(b)+1)])
		if first := answers(s); first != answers(s) {
			t.Errorf("%q: results differ", s)
		}
		_, at, e := read.Term(s, []string{"x"})
		if at < 0 || at > len(s) || e != api.ErrForm && at != 0 {
			t.Errorf("%q: offset %d, error %d", s, at, e)
		}
		_, at, e = read.System(s)
		if at < 0 || at > len(s) || e != api.ErrForm && at != 0 {
			t.Errorf("%q: offset %d, error %d", s, at, e)
		}
	}
}

// answers writes the results of all functions for a string.
func answers(s string) string {
	a, at, e := read.Term(s, []string{"x", "y"})
	l := []any{a, at, e}
	text, e := read.TermText(a)
	l = append(l, text, e)
	r, at, e := read.System(s)
	l = append(l, r, at, e)
	text, e = read.SystemText(r)
	l = append(l, text, e)
	pos, e := read.Pos(s)
	l = append(l, pos, e)
	text, e = read.PosText(pos)
	return fmt.Sprint(append(l, text, e)...)
}

package read

import (
	"strings"

	"dwindle/api"
	"dwindle/term"
)

// parser reads a source token by token. A token is read only when all tokens before it are allowed at their positions,
// so that the first error that is met is the first one of the source.
type parser struct {
	source string
	at     int    // the offset of the token
	token  string // empty at the end of the source
	vars   map[string]bool
}

// misplaced is what a parser panics with: the offset of a byte or token that is not allowed at its position.
type misplaced int

// parse reads the whole source as one content, and then checks it; the errors of the check have no offset.
func parse[T any](p *parser, content func() T, check func(T) api.Errno) (result T, at int, e api.Errno) {
	defer func() {
		switch x := recover().(type) {
		case nil:
		case misplaced:
			at, e = int(x), api.ErrForm
		default: // there is no other panic, but none may leave the package
			e = api.ErrForm
		}
	}()
	p.next()
	x := content()
	p.accept("")
	e = check(x)
	if e == api.OK {
		result = x
	}
	return result, 0, e
}

// fail unwinds the parser at the current token.
func (p *parser) fail() {
	panic(misplaced(p.at))
}

// next goes on to the token behind the current one.
func (p *parser) next() {
	rest := p.source[p.at+len(p.token):]
	rest = strings.TrimLeft(rest, " \t\r\n")
	p.at = len(p.source) - len(rest)
	p.token = firstToken(rest)
}

// firstToken returns the token with which the rest of a source begins. It may be a malformed name, or a byte that begins
// no token: these are not allowed at any position.
func firstToken(rest string) string {
	for _, sign := range []string{"(", ")", ",", "->"} {
		if strings.HasPrefix(rest, sign) {
			return sign
		}
	}
	end := 0
	for end < len(rest) && isNameByte(rest[end]) {
		end++
	}
	if end == 0 && rest != "" {
		end = 1
	}
	return rest[:end]
}

// isNameByte reports whether a byte belongs to the name that it follows: also a # that makes the name malformed.
func isNameByte(c byte) bool {
	return c == '#' || term.IsName(string([]byte{c}), false)
}

// accept goes on if the current token is this one.
func (p *parser) accept(token string) {
	if p.token != token {
		p.fail()
	}
	p.next()
}

// name goes on if the current token is the name of a variable, or of a function symbol (marked), and returns it.
func (p *parser) name(marked bool) string {
	name := p.token
	if !term.IsName(name, marked) {
		p.fail()
	}
	p.next()
	return name
}

// term reads a term. A parenthesis behind a variable is an error because no whole term may be followed by one.
func (p *parser) term() api.Term {
	name := p.name(true)
	if p.vars[name] {
		return api.Term{Name: name, Var: true}
	}
	return api.Term{Name: name, Args: p.args()}
}

// args reads the arguments in parentheses; without parentheses there are none.
func (p *parser) args() []api.Term {
	if p.token != "(" {
		return nil
	}
	p.next()
	if p.token == ")" {
		p.next()
		return nil
	}
	list := []api.Term{p.term()}
	for p.token == "," {
		p.next()
		if len(list) == api.MaxArity {
			p.fail()
		}
		list = append(list, p.term())
	}
	p.accept(")")
	return list
}

// system reads the sections of a system.
func (p *parser) system() []api.Rule {
	p.accept("(")
	if p.token == "VAR" {
		p.next()
		for p.token != ")" {
			name := p.name(false)
			p.vars[name] = true
		}
		p.next()
		p.accept("(")
	}
	p.accept("RULES")
	var list []api.Rule
	for p.token != ")" {
		list = append(list, p.rule())
	}
	p.next()
	return list
}

// rule reads a rule.
func (p *parser) rule() api.Rule {
	left := p.term()
	p.accept("->")
	right := p.term()
	return api.Rule{Left: left, Right: right}
}

package decl

import (
	"capstan/api"
	"capstan/lex"
)

// reader goes through the tokens of a program. The last of them is the end, and nothing is read behind it.
type reader struct {
	tokens []api.Token
	at     int       // which token is the next one
	fault  api.Fault // what is refused, with its place in the text
}

// Parse answers the program that the text s is, or the first fault from the left.
func Parse(s string) (api.Program, api.Fault) {
	l, f := lex.Tokens(s)
	if f.Code != api.OK {
		return api.Program{}, f
	}
	p := api.Program{}
	r := &reader{tokens: l}
	if !program(&p).read(r) {
		return api.Program{}, r.fault
	}
	if len(p.Vars) > api.MaxVars {
		return api.Program{}, api.Fault{Code: api.ErrLong}
	}
	return p, api.Fault{}
}

func (r *reader) next() api.Token {
	return r.tokens[r.at]
}

func (r *reader) is(kind int, text string) bool {
	t := r.next()
	return t.Kind == kind && t.S == text
}

// takes goes on behind the next token, if it is right there, and else refuses it.
func (r *reader) takes(right bool) bool {
	if !right {
		return r.refuses(r.at, api.ErrDecl)
	}
	r.at++
	return true
}

// refuses says that the text is wrong at one of the tokens: what is asked for is its place in the text, not among the tokens.
func (r *reader) refuses(which int, code api.Errno) bool {
	r.fault = api.Fault{At: r.tokens[which].At, Code: code}
	return false
}

package expr

import (
	"slices"
	"strings"

	"capstan/api"
)

// piece is a value as tokens, and whether an operation is the outermost of it, so that it needs brackets within another one.
type piece struct {
	tokens    []api.Token
	operation bool
}

// Tokens answers tokens that are read as just the parts x.
func Tokens(x []api.Part) ([]api.Token, api.Errno) {
	if e := Check(x); e != api.OK {
		return nil, e
	}
	var pieces []piece // of the values that no part has worked on as yet
	for _, p := range x {
		first := len(pieces) - operands(p)
		shown := piece{tokens: show(p, pieces[first:]), operation: p.Kind == api.POp}
		pieces = append(pieces[:first], shown)
	}
	return pieces[0].tokens, api.OK
}

// show answers the tokens of a part that works on these values.
func show(p api.Part, values []piece) []api.Token {
	switch p.Kind {
	case api.PNum:
		return []api.Token{number(p)}
	case api.PVar:
		return []api.Token{word(p.S)}
	case api.PIndex:
		return slices.Concat([]api.Token{word(p.S), sign("[")}, values[0].tokens, []api.Token{sign("]")})
	case api.PField:
		return []api.Token{word(p.S), sign("."), word(p.F)}
	case api.PTo:
		c, _ := conversionTo(p.T)
		return slices.Concat([]api.Token{word(c.word), sign("(")}, values[0].tokens, []api.Token{sign(")")})
	}
	o, _ := operationOf(p.N)
	own := []api.Token{{Kind: o.kind, S: o.text}}
	if len(values) == 1 {
		return slices.Concat(own, inner(values[0]))
	}
	return slices.Concat(inner(values[0]), own, inner(values[1]))
}

// inner answers the tokens of a value on which an operation works.
func inner(v piece) []api.Token {
	if !v.operation {
		return v.tokens
	}
	return slices.Concat([]api.Token{sign("(")}, v.tokens, []api.Token{sign(")")})
}

func number(p api.Part) api.Token {
	switch {
	case p.T != api.TBool:
		return api.Token{Kind: api.KNum, N: p.N, Type: p.T}
	case p.N == 1:
		return word("TRUE")
	}
	return word("FALSE")
}

// word answers the token of a word, which is a copy: no answer shares memory with the parts.
func word(s string) api.Token {
	return api.Token{Kind: api.KWord, S: strings.Clone(s)}
}

func sign(s string) api.Token {
	return api.Token{Kind: api.KSign, S: s}
}

// Names answers the names of all variables, arrays and blocks in x, each once, by their bytes.
func Names(x []api.Part) ([]string, api.Errno) {
	if e := Check(x); e != api.OK {
		return nil, e
	}
	var names []string
	for _, p := range x {
		if p.S != "" {
			names = append(names, strings.Clone(p.S))
		}
	}
	slices.Sort(names)
	return slices.Compact(names), api.OK
}

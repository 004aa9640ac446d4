package expr

import (
	"strings"

	"capstan/api"
)

// maxOpen is how many brackets and operations of one value may be open at once: the reader calls itself for each of them.
const maxOpen = 200

// reader goes through tokens and gathers the parts of an expression. Its methods answer whether what they read may stand there; if not, fault says what is wrong.
type reader struct {
	tokens []api.Token
	at     int // the place of the next token
	opened int
	parts  []api.Part
	fault  api.Fault
}

// Parse answers the parts of the expression that begins at the place at, and the place behind it.
func Parse(l []api.Token, at int) (x []api.Part, next int, f api.Fault) {
	if at < 0 || at > len(l) {
		return nil, 0, api.Fault{Code: api.ErrRange}
	}
	r := &reader{tokens: l, at: at}
	read := rowReader(r)
	if !read(0) {
		return nil, 0, r.fault
	}
	if depth, _ := depthOf(r.parts); len(r.parts) > maxParts || depth > api.MaxDepth {
		return nil, 0, api.Fault{At: at, Code: api.ErrLong}
	}
	return r.parts, r.at, api.Fault{}
}

// rowReader answers the function by which r reads what the operations of a row, and of those behind it, are made of. The rows differ in their operations alone, so it is one for all of them, and calls itself for the next one.
func rowReader(r *reader) func(row int) bool {
	var read func(row int) bool
	read = func(row int) bool {
		if row == unaryRow {
			return r.unary(read)
		}
		if !read(row + 1) {
			return false
		}
		for {
			n, is := r.operation(row)
			if !is {
				return true
			}
			r.at++
			if !read(row + 1) {
				return false
			}
			r.add(api.Part{Kind: api.POp, N: n})
		}
	}
	return read
}

// unary reads an operation of one value with that value, or a primary.
func (r *reader) unary(read func(row int) bool) bool {
	n, is := r.operation(unaryRow)
	if !is {
		return r.primary(read)
	}
	if !r.open() || !read(unaryRow) {
		return false
	}
	r.opened--
	return r.add(api.Part{Kind: api.POp, N: n})
}

func (r *reader) primary(read func(row int) bool) bool {
	t := r.next()
	switch t.Kind {
	case api.KNum: // Whether it fits is asked of parts, by Check: a token that is handed in is a number, whatever it is.
		r.at++
		return r.add(api.Part{Kind: api.PNum, N: t.N, T: t.Type})
	case api.KWord:
		return r.word(t.S, read)
	}
	return r.within("(", ")", read)
}

// word reads what begins with the word s, which is the next token's.
func (r *reader) word(s string, read func(row int) bool) bool {
	switch s {
	case "TRUE":
		r.at++
		return r.add(api.Part{Kind: api.PNum, N: 1, T: api.TBool})
	case "FALSE":
		r.at++
		return r.add(api.Part{Kind: api.PNum, N: 0, T: api.TBool})
	}
	for _, c := range conversions {
		if c.word == s {
			r.at++
			return r.within("(", ")", read) && r.add(api.Part{Kind: api.PTo, T: c.t})
		}
	}
	if !Name(s) {
		return r.refuse()
	}
	return r.variable(strings.Clone(s), read)
}

// variable reads a variable, one of an array or a field of a block, whose name is the next token.
func (r *reader) variable(name string, read func(row int) bool) bool {
	r.at++
	switch {
	case r.is(api.KSign, "["):
		return r.within("[", "]", read) && r.add(api.Part{Kind: api.PIndex, S: name})
	case r.is(api.KSign, "."):
		r.at++
		return r.field(name)
	}
	return r.add(api.Part{Kind: api.PVar, S: name})
}

// field reads the word of a field of the block with that name. Its letters are not looked at: which words may be is asked of parts, by Check.
func (r *reader) field(block string) bool {
	t := r.next()
	if t.Kind != api.KWord {
		return r.refuse()
	}
	r.at++
	return r.add(api.Part{Kind: api.PField, S: block, F: strings.Clone(t.S)})
}

// within reads an expression with an opening sign ahead of it and a closing one behind.
func (r *reader) within(opening, closing string, read func(row int) bool) bool {
	if !r.is(api.KSign, opening) {
		return r.refuse()
	}
	if !r.open() || !read(0) {
		return false
	}
	if !r.is(api.KSign, closing) {
		return r.refuse()
	}
	r.opened--
	r.at++
	return true
}

// open takes the next token as one that is open from here on, unless there are as many as may be.
func (r *reader) open() bool {
	if r.opened == maxOpen {
		r.fault = api.Fault{At: r.at, Code: api.ErrLong}
		return false
	}
	r.opened++
	r.at++
	return true
}

// operation answers the number of the row's operation that the next token is, and whether it is one.
func (r *reader) operation(row int) (int64, bool) {
	for _, o := range operations {
		if o.row == row && r.is(o.kind, o.text) {
			return o.n, true
		}
	}
	return 0, false
}

func (r *reader) is(kind int, text string) bool {
	t := r.next()
	return t.Kind == kind && t.S == text
}

// next answers the next token; behind the last one, a token of no kind.
func (r *reader) next() api.Token {
	if r.at == len(r.tokens) {
		return api.Token{}
	}
	return r.tokens[r.at]
}

func (r *reader) add(p api.Part) bool {
	r.parts = append(r.parts, p)
	return true
}

// refuse says of the next token that it may not stand there.
func (r *reader) refuse() bool {
	r.fault = api.Fault{At: r.at, Code: api.ErrExpr}
	return false
}

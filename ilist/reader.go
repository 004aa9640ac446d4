package ilist

import (
	"capstan/api"
	"capstan/expr"
)

// reader goes through the tokens of lines, the last of which is the end.
type reader struct {
	tokens []api.Token
	next   int // the place in the list of the token that comes next
}

// line is one as it stands there: its word, and what stands behind that; of a label, the label.
type line struct {
	word
	on operand
}

// operand is what stands behind a word: a number with its type (0: of none), or a name, and behind a . a field.
type operand struct {
	isNumber bool
	typ      int
	n        int64
	name     string
	field    string
}

func (r *reader) token() api.Token {
	return r.tokens[r.next]
}

func (r *reader) isAtEnd() bool {
	return r.token().Kind == api.KEnd
}

// take answers the token that comes next, and goes behind it, but never behind the end.
func (r *reader) take() api.Token {
	t := r.token()
	if !r.isAtEnd() {
		r.next++
	}
	return t
}

// takeSign goes behind this sign, if it comes next, and answers whether it did.
func (r *reader) takeSign(s string) bool {
	if t := r.token(); t.Kind != api.KSign || t.S != s {
		return false
	}
	r.next++
	return true
}

// line takes the line that comes next, and answers whether it is one.
func (r *reader) line() (line, bool) {
	t := r.take()
	if t.Kind != api.KWord {
		return line{}, false
	}
	if r.takeSign(":") {
		return line{word{does: label}, operand{name: t.S}}, expr.Name(t.S)
	}
	w, ok := wordOf(t.S)
	if !ok {
		return line{}, false
	}
	x, ok := r.behind(w.needs)
	return line{w, x}, ok
}

// behind takes what a word needs, and answers whether it stands there.
func (r *reader) behind(needs int) (operand, bool) {
	switch needs {
	case anOperand:
		return r.operand()
	case aName:
		return r.name()
	}
	return operand{}, true
}

func (r *reader) name() (operand, bool) {
	t := r.take()
	return operand{name: t.S}, t.Kind == api.KWord && expr.Name(t.S)
}

func (r *reader) operand() (operand, bool) {
	switch t := r.token(); {
	case t.Kind == api.KNum:
		r.take()
		return operand{isNumber: true, typ: t.Type, n: t.N}, true
	case t.Kind == api.KWord && t.S == "TRUE":
		r.take()
		return operand{isNumber: true, typ: api.TBool, n: 1}, true
	case t.Kind == api.KWord && t.S == "FALSE":
		r.take()
		return operand{isNumber: true, typ: api.TBool}, true
	}
	x, ok := r.name()
	if !ok || !r.takeSign(".") {
		return x, ok
	}
	t := r.take()
	x.field = t.S
	return x, t.Kind == api.KWord
}

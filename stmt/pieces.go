package stmt

import (
	"strings"

	"capstan/api"
	"capstan/expr"
)

// inOrder reads pieces, one behind the other, up to the first one that is refused.
func inOrder(pieces ...piece) error {
	for _, read := range pieces {
		if err := read(); err != nil {
			return err
		}
	}
	return nil
}

func (r *reader) word(s string) piece {
	return r.token(api.KWord, s)
}

func (r *reader) sign(s string) piece {
	return r.token(api.KSign, s)
}

// token reads a token of that kind with that text.
func (r *reader) token(kind int, s string) piece {
	return func() error {
		if !r.is(kind, s) {
			return errToken
		}
		r.at++
		return nil
	}
}

// name reads a name, and puts a copy of it there.
func (r *reader) name(to *string) piece {
	return func() error {
		if !expr.Name(r.next().S) {
			return errToken
		}
		return r.anyWord(to)()
	}
}

// anyWord reads a word, and puts a copy of it there. Its letters are not looked at: which words may be is asked of statements, by Check.
func (r *reader) anyWord(to *string) piece {
	return func() error {
		t := r.next()
		if t.Kind != api.KWord {
			return errToken
		}
		*to = strings.Clone(t.S)
		r.at++
		return nil
	}
}

// expression reads one, and puts it there.
func (r *reader) expression(to *[]api.Part) piece {
	return func() error {
		x, next, f := expr.Parse(r.tokens, r.at)
		if f.Code != api.OK {
			r.fault = f
			return errExpression
		}
		*to = x
		r.at = next
		return nil
	}
}

// number reads a number of no type, or - and one, and puts it there; where it is a step, it is not 0. A - may stand there: what does not fit is the number behind it.
func (r *reader) number(to *int64, step bool) piece {
	return func() error {
		minus := r.is(api.KSign, "-")
		if minus {
			r.at++
		}
		t := r.next()
		if t.Kind != api.KNum || t.Type != 0 || step && t.N == 0 {
			return errToken
		}
		n := t.N
		if minus {
			n = -n
		}
		if !isNumber(n) {
			return errToken
		}
		*to = n
		r.at++
		return nil
	}
}

func (r *reader) is(kind int, text string) bool {
	t := r.next()
	return t.Kind == kind && t.S == text
}

// next answers the next token; behind the last one, a token of no kind.
func (r *reader) next() api.Token {
	if r.at == len(r.tokens) {
		return api.Token{}
	}
	return r.tokens[r.at]
}

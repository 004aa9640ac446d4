package stmt

import (
	"strings"

	"capstan/api"
	"capstan/expr"
)

// writer gathers the tokens of statements that may be.
type writer struct {
	tokens []api.Token
}

// Tokens answers tokens that are read as just the statements s.
func Tokens(s []api.Stmt) ([]api.Token, api.Errno) {
	if e := Check(s); e != api.OK {
		return nil, e
	}
	w := &writer{}
	w.statements(s)
	return w.tokens, api.OK
}

func (w *writer) statements(list []api.Stmt) {
	for _, s := range list {
		w.statement(s)
		w.sign(";")
	}
}

// statement writes s but for the ; at its end.
func (w *writer) statement(s api.Stmt) {
	switch s.Kind {
	case api.SSet:
		w.set(s)
	case api.SIf:
		w.choice(s)
	case api.SWhile:
		w.word("WHILE")
		w.expression(s.X)
		w.word("DO")
		w.statements(s.Body)
		w.word("END_WHILE")
	case api.SRepeat:
		w.word("REPEAT")
		w.statements(s.Body)
		w.word("UNTIL")
		w.expression(s.X)
		w.word("END_REPEAT")
	case api.SFor:
		w.loop(s)
	case api.SCase:
		w.cases(s)
	case api.SCall:
		w.call(s)
	case api.SExit:
		w.word("EXIT")
	case api.SReturn:
		w.word("RETURN")
	}
}

func (w *writer) set(s api.Stmt) {
	w.word(s.Name)
	if len(s.Index) > 0 {
		w.sign("[")
		w.expression(s.Index)
		w.sign("]")
	}
	w.sign(":=")
	w.expression(s.X)
}

// choice writes an IF, and all that are ELSIFs of it.
func (w *writer) choice(s api.Stmt) {
	w.word("IF")
	w.branch(s)
	for hasElsif(s) {
		s = s.Else[0]
		w.word("ELSIF")
		w.branch(s)
	}
	w.otherwise(s.Else)
	w.word("END_IF")
}

func (w *writer) branch(s api.Stmt) {
	w.expression(s.X)
	w.word("THEN")
	w.statements(s.Body)
}

func (w *writer) otherwise(list []api.Stmt) {
	if len(list) > 0 {
		w.word("ELSE")
		w.statements(list)
	}
}

func (w *writer) loop(s api.Stmt) {
	w.word("FOR")
	w.word(s.Name)
	w.sign(":=")
	w.expression(s.X)
	w.word("TO")
	w.expression(s.Y)
	if s.By != 1 {
		w.word("BY")
		w.number(s.By)
	}
	w.word("DO")
	w.statements(s.Body)
	w.word("END_FOR")
}

func (w *writer) cases(s api.Stmt) {
	w.word("CASE")
	w.expression(s.X)
	w.word("OF")
	for _, a := range s.Arms {
		w.arm(a)
	}
	w.otherwise(s.Else)
	w.word("END_CASE")
}

func (w *writer) arm(a api.Arm) {
	for i, n := range a.Labels {
		if i > 0 {
			w.sign(",")
		}
		w.number(n)
	}
	w.sign(":")
	w.statements(a.Body)
}

func (w *writer) call(s api.Stmt) {
	w.word(s.Name)
	w.sign("(")
	for i, a := range s.Args {
		if i > 0 {
			w.sign(",")
		}
		w.word(a.Name)
		w.sign(":=")
		w.expression(a.X)
	}
	w.sign(")")
}

func (w *writer) expression(x []api.Part) {
	l, _ := expr.Tokens(x)
	w.tokens = append(w.tokens, l...)
}

func (w *writer) number(n int64) {
	if n < 0 {
		w.sign("-")
		n = -n
	}
	w.tokens = append(w.tokens, api.Token{Kind: api.KNum, N: n})
}

// word writes a copy of s: no answer shares memory with the statements.
func (w *writer) word(s string) {
	w.tokens = append(w.tokens, api.Token{Kind: api.KWord, S: strings.Clone(s)})
}

func (w *writer) sign(s string) {
	w.tokens = append(w.tokens, api.Token{Kind: api.KSign, S: s})
}

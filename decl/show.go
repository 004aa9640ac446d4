package decl

import (
	"capstan/api"
	"capstan/lex"
	"capstan/stmt"
)

// writer gathers the tokens of a program that may be.
type writer struct {
	tokens []api.Token
}

// Show answers a text that is read as just the program p.
func Show(p api.Program) (string, api.Errno) {
	if e := Check(p); e != api.OK {
		return "", e
	}
	w := &writer{}
	w.word("PROGRAM")
	w.word(p.Name)
	w.sections(p.Vars)
	w.statements(p.Body)
	w.word("END_PROGRAM")
	w.add(api.Token{Kind: api.KEnd})
	return lex.Show(w.tokens)
}

// sections writes a section of each stretch of variables that are declared at one place.
func (w *writer) sections(vars []api.Var) {
	for i, v := range vars {
		if i == 0 || vars[i-1].Dir != v.Dir {
			begin, _ := wordOfDir(v.Dir)
			w.word(begin)
		}
		w.variable(v)
		if i == len(vars)-1 || vars[i+1].Dir != v.Dir {
			w.word("END_VAR")
		}
	}
}

func (w *writer) variable(v api.Var) {
	w.word(v.Name)
	w.sign(":")
	if v.Len > 0 {
		w.bounds(v.Len)
	}
	t, _ := wordOfType(v.Type)
	w.word(t)
	if v.Init != 0 {
		w.sign(":=")
		w.first(v)
	}
	w.sign(";")
}

// bounds writes what an array has ahead of the type of its values.
func (w *writer) bounds(length int) {
	w.word("ARRAY")
	w.sign("[")
	w.number(0, 0)
	w.sign("..")
	w.number(int64(length-1), 0)
	w.sign("]")
	w.word("OF")
}

// first writes what v is at first, where that is not 0.
func (w *writer) first(v api.Var) {
	switch {
	case v.Type == api.TBool:
		w.word("TRUE")
	case v.Type == api.TTime:
		w.number(v.Init, api.TTime)
	case v.Init < 0:
		w.sign("-")
		w.number(-v.Init, 0)
	default:
		w.number(v.Init, 0)
	}
}

func (w *writer) statements(list []api.Stmt) {
	l, _ := stmt.Tokens(list)
	w.tokens = append(w.tokens, l...)
}

func (w *writer) number(n int64, t int) {
	w.add(api.Token{Kind: api.KNum, N: n, Type: t})
}

func (w *writer) word(s string) {
	w.add(api.Token{Kind: api.KWord, S: s})
}

func (w *writer) sign(s string) {
	w.add(api.Token{Kind: api.KSign, S: s})
}

func (w *writer) add(t api.Token) {
	w.tokens = append(w.tokens, t)
}

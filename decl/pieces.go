package decl

import (
	"capstan/api"
	"capstan/expr"
	"capstan/stmt"
)

// piece is what stands at a place of a program.
type piece interface {
	// read goes on behind the piece, and answers whether it stands there; if not, the reader has the fault.
	read(r *reader) bool
}

// inOrder are pieces, one behind the other.
type inOrder []piece

func (l inOrder) read(r *reader) bool {
	for _, p := range l {
		if !p.read(r) {
			return false
		}
	}
	return true
}

// program is all of a text.
func program(to *api.Program) piece {
	return inOrder{word("PROGRAM"), name{&to.Name}, sections{&to.Vars}, statements{&to.Body}, word("END_PROGRAM"), end{}}
}

func variable(to *api.Var) piece {
	return inOrder{name{&to.Name}, sign(":"), typeOrArray{to}, first{to}, sign(";")}
}

// array is the type of an array, with the least and the greatest of its indices.
func array(least, greatest *int64, of *int) piece {
	return inOrder{
		word("ARRAY"), sign("["), number{0, least}, sign(".."), number{api.MaxArray - 1, greatest}, sign("]"),
		word("OF"), typeName{of, false},
	}
}

// word is just this word.
type word string

func (w word) read(r *reader) bool {
	return r.takes(r.is(api.KWord, string(w)))
}

// sign is just this sign.
type sign string

func (s sign) read(r *reader) bool {
	return r.takes(r.is(api.KSign, string(s)))
}

// end is the end of the text.
type end struct{}

func (end) read(r *reader) bool {
	return r.takes(r.next().Kind == api.KEnd)
}

type name struct{ to *string }

func (n name) read(r *reader) bool {
	t := r.next()
	*n.to = t.S
	return r.takes(t.Kind == api.KWord && expr.Name(t.S))
}

// number is one of no type, from 0 to the most.
type number struct {
	most int64
	to   *int64
}

func (n number) read(r *reader) bool {
	t := r.next()
	*n.to = t.N
	return r.takes(t.Kind == api.KNum && t.Type == 0 && 0 <= t.N && t.N <= n.most)
}

// sections are as many as there are; what they declare is put behind what is there.
type sections struct{ to *[]api.Var }

func (s sections) read(r *reader) bool {
	for {
		dir, begins := dirOf(r.next().S)
		if !begins {
			return true
		}
		r.at++
		if !(variables{dir, s.to}).read(r) {
			return false
		}
	}
}

// variables are those of a section, up to its end.
type variables struct {
	dir int
	to  *[]api.Var
}

func (l variables) read(r *reader) bool {
	for !r.is(api.KWord, "END_VAR") {
		v := api.Var{Dir: l.dir}
		if !variable(&v).read(r) {
			return false
		}
		*l.to = append(*l.to, v)
	}
	return word("END_VAR").read(r)
}

// typeOrArray is what stands behind the : of a variable whose Dir is known.
type typeOrArray struct{ of *api.Var }

func (x typeOrArray) read(r *reader) bool {
	local := x.of.Dir == api.DLocal
	if !local || !r.is(api.KWord, "ARRAY") {
		return typeName{&x.of.Type, local}.read(r)
	}
	var least, greatest int64
	if !array(&least, &greatest, &x.of.Type).read(r) {
		return false
	}
	x.of.Len = int(greatest-least) + 1
	return true
}

// typeName is the word of a type of values, or of a block where one may be.
type typeName struct {
	to    *int
	block bool
}

func (n typeName) read(r *reader) bool {
	t, is := typeOf(r.next().S)
	*n.to = t
	return r.takes(is && (n.block || isValue(t)))
}

// first is what a variable whose type is known is at first, if that is told.
type first struct{ of *api.Var }

func (f first) read(r *reader) bool {
	if !r.is(api.KSign, ":=") {
		return true
	}
	if !r.takes(isSingle(*f.of)) {
		return false
	}
	begin := r.at
	t, ok := r.firstValue()
	if !ok {
		return false
	}
	f.of.Init = t.N
	if !goesWith(t.Type, f.of.Type) || !firstMayBe(*f.of) {
		return r.refuses(begin, api.ErrDecl)
	}
	return true
}

// firstValue reads a first as a number, of BOOL where it is TRUE or FALSE. Whether it fits is not looked at.
func (r *reader) firstValue() (api.Token, bool) {
	minus := r.is(api.KSign, "-")
	if minus {
		r.at++
	}
	t := asNumber(r.next())
	right := t.Kind == api.KNum && (!minus || t.Type == 0)
	if minus {
		t.N = -t.N
	}
	return t, r.takes(right)
}

// asNumber answers the number that TRUE or FALSE is, or else t.
func asNumber(t api.Token) api.Token {
	switch t.S {
	case "TRUE":
		return api.Token{Kind: api.KNum, N: 1, Type: api.TBool}
	case "FALSE":
		return api.Token{Kind: api.KNum, N: 0, Type: api.TBool}
	}
	return t
}

// goesWith answers whether a number of the type told, or of none (0), may be the first of a variable of the type t, if it fits.
func goesWith(told, t int) bool {
	return told == t || told == 0 && (t == api.TInt || t == api.TDint)
}

// statements are those of a program.
type statements struct{ to *[]api.Stmt }

func (s statements) read(r *reader) bool {
	list, next, f := stmt.Parse(r.tokens, r.at)
	if f.Code != api.OK {
		return r.refuses(f.At, f.Code)
	}
	*s.to = list
	r.at = next
	return true
}

package typed

import (
	"capstan/api"
	"capstan/num"
)

// shape is what a variable is used as, or is: one value (neither), an array, a block.
type shape struct {
	array, block bool
}

func shapeOf(v api.Var) shape {
	return shape{array: v.Len > 0, block: v.Type > api.Block}
}

// find answers the first variable of this name, if it is what it is used as.
func find(vars []api.Var, name string, as shape) (api.Var, api.Errno) {
	for _, v := range vars {
		if v.Name != name {
			continue
		}
		if shapeOf(v) != as {
			return api.Var{}, api.ErrKind
		}
		return v, api.OK
	}
	return api.Var{}, api.ErrName
}

// kind is what is known of a value on the stack: its type; or, if that is none yet (0), the least and the greatest of its numbers, for the type that it is going to take. Beside a type both are 0, so that kinds with types are the same just if their types are.
type kind struct {
	typ         int
	least, most int64
}

// fits answers whether a value of the kind fits the type t: it has it, or has none yet and can take it.
func (k kind) fits(t int) api.Errno {
	switch {
	case k.typ != 0 && k == kind{typ: t}:
		return api.OK
	case k.typ != 0 || t != api.TInt && t != api.TDint:
		return api.ErrType
	case !num.Fits(t, k.least) || !num.Fits(t, k.most):
		return api.ErrRange
	}
	return api.OK
}

// among answers whether a value of the kind has one of the types, or fits TDint, the one that it takes where nothing tells of another.
func (k kind) among(types ...int) api.Errno {
	for _, t := range types {
		if k == (kind{typ: t}) {
			return api.OK
		}
	}
	return k.fits(api.TDint)
}

// with answers a kind of none yet that has the numbers of both.
func (k kind) with(other kind) kind {
	return kind{least: min(k.least, other.least), most: max(k.most, other.most)}
}

// typeOr answers the type of the kind, or t, if it has none yet.
func (k kind) typeOr(t int) int {
	if k.typ == 0 {
		return t
	}
	return k.typ
}

// kindOf answers the kind of the expression x, which may be, or what the first part that is wrong tells.
func kindOf(vars []api.Var, x []api.Part) (kind, api.Errno) {
	var stack []kind
	for _, p := range x {
		ahead := len(stack) - worksOn(p)
		k, e := partKind(vars, p, stack[ahead:])
		if e != api.OK {
			return kind{}, e
		}
		stack = append(stack[:ahead], k)
	}
	whole := stack[0]
	if whole.typ == 0 && whole.fits(api.TDint) != api.OK {
		return kind{}, api.ErrRange
	}
	return whole, api.OK
}

// worksOn answers on how many values ahead of it the part p works.
func worksOn(p api.Part) int {
	switch {
	case p.Kind == api.PIndex || p.Kind == api.PTo:
		return 1
	case p.Kind != api.POp:
		return 0
	case p.N == api.NNeg || p.N == api.NNot:
		return 1
	}
	return 2
}

// partKind answers the kind of what the part p makes of the values that it works on.
func partKind(vars []api.Var, p api.Part, on []kind) (kind, api.Errno) {
	switch p.Kind {
	case api.PNum:
		return numberKind(p), api.OK
	case api.PVar:
		v, e := find(vars, p.S, shape{})
		return kind{typ: v.Type}, e
	case api.PIndex:
		v, e := find(vars, p.S, shape{array: true})
		if e == api.OK {
			e = on[0].among(api.TInt)
		}
		return kind{typ: v.Type}, e
	case api.PField:
		return fieldKind(vars, p)
	case api.PTo:
		return kind{typ: p.T}, on[0].among(api.TInt, api.TTime)
	}
	return opKind(int(p.N), on[0], on[len(on)-1])
}

func numberKind(p api.Part) kind {
	if p.T == 0 {
		return kind{least: p.N, most: p.N}
	}
	return kind{typ: p.T}
}

func fieldKind(vars []api.Var, p api.Part) (kind, api.Errno) {
	v, e := find(vars, p.S, shape{block: true})
	if e != api.OK {
		return kind{}, e
	}
	f, ok := fieldOf(v, p.F)
	if !ok {
		return kind{}, api.ErrKind
	}
	return kind{typ: f.Type}, api.OK
}

// opKind answers the kind of what the operation makes of left and right; of an operation of one value they are the same.
func opKind(op int, left, right kind) (kind, api.Errno) {
	t := left.typeOr(right.typeOr(api.TDint))
	result, e := num.Result(op, t)
	if e != api.OK {
		return kind{}, e
	}
	if left.typ == 0 && right.typ == 0 && result == t {
		return left.with(right), api.OK
	}
	if e := left.fits(t); e != api.OK {
		return kind{}, e
	}
	if e := right.fits(t); e != api.OK {
		return kind{}, e
	}
	return kind{typ: result}, api.OK
}

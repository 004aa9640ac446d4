package gen

import (
	"capstan/api"
	"capstan/num"
	"capstan/typed"
)

// codeOf answers the code of the expression x, which has a type, as all numbers in it have.
func codeOf(vars []api.Var, x []api.Part) []api.Instr {
	var code []api.Instr
	var types []int // of the values that no part has worked on as yet
	for _, p := range x {
		rest := len(types) - worksOn(p)
		i, made := instrOf(vars, p, types[rest:])
		code = append(code, i)
		types = append(types[:rest], made)
	}
	return code
}

// worksOn answers on how many values ahead of it the part p works.
func worksOn(p api.Part) int {
	switch {
	case p.Kind == api.PIndex || p.Kind == api.PTo:
		return 1
	case p.Kind != api.POp:
		return 0
	case p.N == api.NNeg || p.N == api.NNot:
		return 1
	}
	return 2
}

// instrOf answers the instruction of the part p, which works on values of these types, and the type of what it makes.
func instrOf(vars []api.Var, p api.Part, on []int) (i api.Instr, made int) {
	switch p.Kind {
	case api.PNum:
		return api.Instr{Op: api.IPush, A: p.T, N: p.N}, p.T
	case api.PTo:
		return api.Instr{Op: api.ITo, A: on[0], B: p.T}, p.T
	case api.POp:
		return operation(int(p.N), on)
	}
	at, v, _ := typed.Place(vars, p.S)
	switch p.Kind {
	case api.PIndex:
		return api.Instr{Op: api.ILoadX, A: at, B: v.Len}, v.Type
	case api.PField:
		cell, t := fieldCell(at, v, p.F)
		return api.Instr{Op: api.ILoad, A: cell}, t
	}
	return api.Instr{Op: api.ILoad, A: at}, v.Type
}

// operation answers the instruction of the operation op on one value, or two, of these types, and the type of what it makes.
func operation(op int, on []int) (i api.Instr, made int) {
	i = api.Instr{Op: api.ITwo, A: op, B: on[0]}
	if len(on) == 1 {
		i.Op = api.IOne
	}
	made, _ = num.Result(op, on[0])
	return i, made
}

// fieldCell answers the cell of the field of this name of the block v, whose cells begin at the place at, and the field's type.
func fieldCell(at int, v api.Var, name string) (cell, t int) {
	fields, _ := typed.Fields(v.Type - api.Block)
	for n, f := range fields {
		if f.Name == name {
			return at + n, f.Type
		}
	}
	return 0, 0
}

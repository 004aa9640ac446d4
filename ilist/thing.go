package ilist

import (
	"capstan/api"
	"capstan/num"
	"capstan/typed"
)

// thing is what an operand means: a number, or a cell.
type thing struct {
	isNumber bool
	typ      int // 0: a number of none
	n        int64
	cell     int
	fixed    bool // it may not be stored to
}

// find answers what an operand means.
func (m *maker) find(x operand) (thing, api.Errno) {
	if x.isNumber {
		return thing{isNumber: true, typ: x.typ, n: x.n, fixed: true}, api.OK
	}
	if x.field != "" {
		return m.field(x)
	}
	cell, v, e := typed.Place(m.vars, x.name)
	if e != api.OK {
		return thing{}, e
	}
	if v.Len > 0 || v.Type > api.Block {
		return thing{}, api.ErrKind
	}
	return thing{typ: v.Type, cell: cell, fixed: v.Dir == api.DInput}, api.OK
}

// target answers what an operand means that is stored to.
func (m *maker) target(x operand) (thing, api.Errno) {
	y, e := m.find(x)
	if e == api.OK && y.fixed {
		return thing{}, api.ErrKind
	}
	return y, e
}

// field answers the field that an operand names.
func (m *maker) field(x operand) (thing, api.Errno) {
	cell, kind, e := m.block(x.name)
	if e != api.OK {
		return thing{}, e
	}
	fields, _ := typed.Fields(kind)
	for n, f := range fields {
		if f.Name == x.field {
			return thing{typ: f.Type, cell: cell + n, fixed: !f.Set}, api.OK
		}
	}
	return thing{}, api.ErrKind
}

// block answers where the cells of the block of this name begin, and its kind.
func (m *maker) block(name string) (cell, kind int, e api.Errno) {
	cell, v, e := typed.Place(m.vars, name)
	if e != api.OK {
		return 0, 0, e
	}
	if v.Type < api.Block {
		return 0, 0, api.ErrKind
	}
	return cell, v.Type - api.Block, api.OK
}

// typeAlone answers the type that a number of none has, where nothing asks it for one.
func typeAlone(n int64) int {
	if num.Fits(api.TInt, n) {
		return api.TInt
	}
	return api.TDint
}

// fits answers whether x is no number, or one that fits its type.
func (x thing) fits() bool {
	return !x.isNumber || num.Fits(x.typ, x.n)
}

// brought answers the instruction that brings the value of x.
func (x thing) brought() api.Instr {
	if x.isNumber {
		return api.Instr{Op: api.IPush, A: x.typ, N: x.n}
	}
	return api.Instr{Op: api.ILoad, A: x.cell}
}

// stored answers the instruction that stores to x.
func (x thing) stored() api.Instr {
	return api.Instr{Op: api.IStore, A: x.cell}
}

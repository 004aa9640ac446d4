package num

import "capstan/api"

// typeSet has the bit 1 << t for each type t that belongs to it.
type typeSet uint8

// The sets of types that operations have.
const (
	counts  typeSet = 1<<api.TInt | 1<<api.TDint
	amounts         = counts | 1<<api.TTime
	bits            = counts | 1<<api.TBool
	all             = amounts | 1<<api.TBool
)

func (s typeSet) has(t int) bool {
	return isType(t) && s>>t&1 == 1
}

// operation is a row: for which types it is, and how it is reckoned ahead of wrapping. Of two and one it has the function for as many values as it takes.
type operation struct {
	types    typeSet
	compares bool
	divides  bool
	two      func(a, b int64) int64
	one      func(a int64) int64
}

// find answers the row of the operation op, or false if there is no such operation of the type t.
//
// Values that fit a type have at most 32 bits, so no row's function leaves int64. NNot needs no other function for TBool: all bits the other way, wrapped, is 1 minus it.
func find(op, t int) (operation, bool) {
	rows := [...]operation{
		api.NAdd: {types: amounts, two: func(a, b int64) int64 { return a + b }},
		api.NSub: {types: amounts, two: func(a, b int64) int64 { return a - b }},
		api.NMul: {types: counts, two: func(a, b int64) int64 { return a * b }},
		api.NDiv: {types: counts, divides: true, two: func(a, b int64) int64 { return a / b }},
		api.NMod: {types: counts, divides: true, two: func(a, b int64) int64 { return a % b }},
		api.NAnd: {types: bits, two: func(a, b int64) int64 { return a & b }},
		api.NOr:  {types: bits, two: func(a, b int64) int64 { return a | b }},
		api.NXor: {types: bits, two: func(a, b int64) int64 { return a ^ b }},
		api.NEq:  {types: all, compares: true, two: func(a, b int64) int64 { return truth(a == b) }},
		api.NNe:  {types: all, compares: true, two: func(a, b int64) int64 { return truth(a != b) }},
		api.NLt:  {types: amounts, compares: true, two: func(a, b int64) int64 { return truth(a < b) }},
		api.NLe:  {types: amounts, compares: true, two: func(a, b int64) int64 { return truth(a <= b) }},
		api.NGt:  {types: amounts, compares: true, two: func(a, b int64) int64 { return truth(a > b) }},
		api.NGe:  {types: amounts, compares: true, two: func(a, b int64) int64 { return truth(a >= b) }},
		api.NNeg: {types: amounts, one: func(a int64) int64 { return -a }},
		api.NNot: {types: bits, one: func(a int64) int64 { return ^a }},
	}
	if op < 0 || op >= len(rows) || !rows[op].types.has(t) {
		return operation{}, false
	}
	return rows[op], true
}

func truth(holds bool) int64 {
	if holds {
		return 1
	}
	return 0
}

// result answers the type of what comes out of the row's operation of the type t.
func (o operation) result(t int) int {
	if o.compares {
		return api.TBool
	}
	return t
}

// Result answers the type of what comes out of the operation op, of one value or two of the type t.
func Result(op, t int) (int, api.Errno) {
	row, ok := find(op, t)
	if !ok {
		return 0, api.ErrType
	}
	return row.result(t), api.OK
}

// Two answers what comes out of the operation op of a and b, two values of the type t.
func Two(op, t int, a, b int64) (int64, api.Errno) {
	row, ok := find(op, t)
	if !ok || row.two == nil {
		return 0, api.ErrType
	}
	if !Fits(t, a) || !Fits(t, b) {
		return 0, api.ErrRange
	}
	if row.divides && b == 0 {
		return 0, api.ErrZero
	}
	return wrapped(row.result(t), row.two(a, b)), api.OK
}

// One answers what comes out of the operation op of a, one value of the type t.
func One(op, t int, a int64) (int64, api.Errno) {
	row, ok := find(op, t)
	if !ok || row.one == nil {
		return 0, api.ErrType
	}
	if !Fits(t, a) {
		return 0, api.ErrRange
	}
	return wrapped(row.result(t), row.one(a)), api.OK
}

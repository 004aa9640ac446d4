package code

import (
	"strconv"

	"capstan/api"
	"capstan/num"
	"capstan/typed"
)

// parts has a bit for each of A, B and N that instructions of an Op have.
type parts uint8

const (
	partA parts = 1 << iota
	partB
	partN
)

// rule is a row: by which name an Op is shown, which parts its instructions have, and whether those of an instruction are right in an image.
type rule struct {
	name  string
	has   parts
	right func(x api.Image, i api.Instr) bool
}

// ruleOf answers the row of an Op, or false, if there is no such Op.
func ruleOf(op int) (rule, bool) {
	rows := [...]rule{
		api.IPush:   {"PUSH", partA | partN, pushesValue},
		api.ILoad:   {"LOAD", partA, namesCell},
		api.IStore:  {"STORE", partA, namesCell},
		api.ILoadX:  {"LOADX", partA | partB, namesArray},
		api.IStoreX: {"STOREX", partA | partB, namesArray},
		api.ITwo:    {"TWO", partA | partB, takesTwo},
		api.IOne:    {"ONE", partA | partB, takesOne},
		api.ITo:     {"TO", partA | partB, converts},
		api.IJump:   {"JUMP", partA, namesPlace},
		api.IFalse:  {"FALSE", partA, namesPlace},
		api.ICall:   {"CALL", partA | partB, callsBlock},
		api.IEnd:    {"END", 0, func(api.Image, api.Instr) bool { return true }},
	}
	if op < api.IPush || op >= len(rows) {
		return rule{}, false
	}
	return rows[op], true
}

// mayBe answers whether the instruction i may be in x, all else of which may be.
func mayBe(x api.Image, i api.Instr) bool {
	r, there := ruleOf(i.Op)
	return there && othersAreZero(r.has, i) && r.right(x, i)
}

// othersAreZero answers whether what i does not have is 0.
func othersAreZero(has parts, i api.Instr) bool {
	return (has&partA != 0 || i.A == 0) && (has&partB != 0 || i.B == 0) && (has&partN != 0 || i.N == 0)
}

func pushesValue(_ api.Image, i api.Instr) bool {
	return num.Fits(i.A, i.N)
}

func namesCell(x api.Image, i api.Instr) bool {
	return within(i.A, len(x.Types))
}

func namesArray(x api.Image, i api.Instr) bool {
	if i.B < 1 || i.B > api.MaxArray || !thereFrom(x, i.A, i.B) {
		return false
	}
	for _, t := range x.Types[i.A : i.A+i.B] {
		if t != x.Types[i.A] {
			return false
		}
	}
	return true
}

// thereFrom answers whether x has so many cells from one on. That is asked by what is left, since cell and many could be more together than an int has.
func thereFrom(x api.Image, cell, many int) bool {
	return within(cell, len(x.Types)) && many <= len(x.Types)-cell
}

// takesTwo tries the operation with values that fit every type, and by which can be divided: what is refused then has no such operation.
func takesTwo(_ api.Image, i api.Instr) bool {
	_, e := num.Two(i.A, i.B, 1, 1)
	return e == api.OK
}

func takesOne(_ api.Image, i api.Instr) bool {
	_, e := num.One(i.A, i.B, 1)
	return e == api.OK
}

func converts(_ api.Image, i api.Instr) bool {
	_, e := num.Convert(i.A, i.B, 1)
	return e == api.OK
}

func namesPlace(x api.Image, i api.Instr) bool {
	return within(i.A, len(x.Code))
}

func callsBlock(x api.Image, i api.Instr) bool {
	fields, e := typed.Fields(i.A)
	if e != api.OK || !thereFrom(x, i.B, len(fields)) {
		return false
	}
	for n, f := range fields {
		if x.Types[i.B+n] != f.Type {
			return false
		}
	}
	return true
}

// Show answers the instruction as a text: what its Op is called (? of an Op that there is not), A, B and N.
func Show(i api.Instr) string {
	name := "?"
	if r, there := ruleOf(i.Op); there {
		name = r.name
	}
	return name + " " + strconv.Itoa(i.A) + " " + strconv.Itoa(i.B) + " " + strconv.FormatInt(i.N, 10)
}

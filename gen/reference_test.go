package gen_test

import (
	"fmt"
	"strings"

	"capstan/api"
	"capstan/fold"
	"capstan/typed"
)

// The reference writes code as lines of text with labels in the place of places, as the chapter's words have them, and puts the numbers in when all lines are there. What an operation works on is found by going back through the parts, and asked for its type as an expression of its own.

type asm struct {
	vars   []api.Var
	lines  []string // one that ends with : is a label
	labels int
}

func (a *asm) put(words ...any) {
	a.lines = append(a.lines, strings.TrimSuffix(fmt.Sprintln(words...), "\n"))
}

func (a *asm) label() string {
	a.labels++
	return fmt.Sprint("@", a.labels)
}

// numbered answers the lines without labels, with the labels' places in their stead.
func (a *asm) numbered() []string {
	places := map[string]int{}
	n := 0
	for _, l := range a.lines {
		if name, is := strings.CutSuffix(l, ":"); is {
			places[name] = n
		} else {
			n++
		}
	}
	var out []string
	for _, l := range a.lines {
		if strings.HasSuffix(l, ":") {
			continue
		}
		if word, name, is := strings.Cut(l, " @"); is {
			l = fmt.Sprint(word, " ", places["@"+name])
		}
		out = append(out, l)
	}
	return out
}

// begin answers where the value begins whose last part is at the place end.
func begin(x []api.Part, end int) int {
	open := 1
	for at := end; ; at-- {
		p := x[at]
		if p.Kind == api.PNum || p.Kind == api.PVar || p.Kind == api.PField {
			open--
		}
		if p.Kind == api.POp && p.N < api.NNeg {
			open++
		}
		if open == 0 {
			return at
		}
	}
}

// typeName answers the name of the type of the value whose last part is at the place end.
func (a *asm) typeName(x []api.Part, end int) string {
	t, e := typed.Type(a.vars, x[begin(x, end):end+1])
	if t == 0 || e != api.OK {
		panic(fmt.Sprint("no type: ", x, end, t, e))
	}
	return typeNames[t]
}

// cell answers the cell of a variable, or of a field of it.
func (a *asm) cell(name, field string) int {
	at, v, _ := typed.Place(a.vars, name)
	fields, _ := typed.Fields(v.Type - 100)
	for n := range fields {
		if fields[n].Name == field {
			at += n
		}
	}
	return at
}

// variable answers the variable of this name.
func (a *asm) variable(name string) api.Var {
	for _, v := range a.vars {
		if v.Name == name {
			return v
		}
	}
	return api.Var{}
}

// fieldType answers the type of a field of a block.
func (a *asm) fieldType(name, field string) int {
	fields, _ := typed.Fields(a.variable(name).Type - 100)
	for _, f := range fields {
		if f.Name == field {
			return f.Type
		}
	}
	return 0
}

func (a *asm) expression(parts []api.Part, t int) {
	x, e := fold.Fold(a.vars, parts, t)
	if e != api.OK {
		panic(fmt.Sprint("not right: ", parts, t, e))
	}
	for at, p := range x {
		switch p.Kind {
		case api.PNum:
			a.put("PUSH", typeNames[p.T], p.N)
		case api.PVar:
			a.put("LOAD", a.cell(p.S, ""))
		case api.PIndex:
			a.put("LOADX", a.cell(p.S, ""), a.variable(p.S).Len)
		case api.PField:
			a.put("LOAD", a.cell(p.S, p.F))
		case api.PTo:
			a.put("TO", a.typeName(x, at-1), typeNames[p.T])
		case api.POp:
			if p.N >= api.NNeg {
				a.put("ONE", opNames[p.N], a.typeName(x, at-1))
			} else {
				a.put("TWO", opNames[p.N], a.typeName(x, begin(x, at-1)-1))
			}
		}
	}
}

// statements puts the code of statements; exit is the label behind the innermost loop.
func (a *asm) statements(list []api.Stmt, exit string) {
	for _, s := range list {
		a.statement(s, exit)
	}
}

func (a *asm) statement(s api.Stmt, exit string) {
	switch s.Kind {
	case api.SSet:
		a.set(s)
	case api.SIf:
		other, behind := a.label(), a.label()
		a.expression(s.X, api.TBool)
		a.put("FALSE", other)
		a.statements(s.Body, exit)
		if len(s.Else) > 0 {
			a.put("JUMP", behind)
		}
		a.put(other + ":")
		a.statements(s.Else, exit)
		a.put(behind + ":")
	case api.SWhile:
		again, behind := a.label(), a.label()
		a.put(again + ":")
		a.expression(s.X, api.TBool)
		a.put("FALSE", behind)
		a.statements(s.Body, behind)
		a.put("JUMP", again)
		a.put(behind + ":")
	case api.SRepeat:
		again, behind := a.label(), a.label()
		a.put(again + ":")
		a.statements(s.Body, behind)
		a.expression(s.X, api.TBool)
		a.put("FALSE", again)
		a.put(behind + ":")
	case api.SFor:
		a.count(s)
	case api.SCase:
		a.choose(s, exit)
	case api.SCall:
		for _, arg := range s.Args {
			a.expression(arg.X, a.fieldType(s.Name, arg.Name))
			a.put("STORE", a.cell(s.Name, arg.Name))
		}
		a.put("CALL", blockNames[a.variable(s.Name).Type-100], a.cell(s.Name, ""))
	case api.SExit:
		a.put("JUMP", exit)
	case api.SReturn:
		a.put("END")
	}
}

func (a *asm) set(s api.Stmt) {
	v := a.variable(s.Name)
	if len(s.Index) == 0 {
		a.expression(s.X, v.Type)
		a.put("STORE", a.cell(s.Name, ""))
		return
	}
	if typed.Fits(a.vars, s.Index, api.TInt) == api.OK {
		a.expression(s.Index, api.TInt)
	} else {
		a.expression(s.Index, api.TDint)
	}
	a.expression(s.X, v.Type)
	a.put("STOREX", a.cell(s.Name, ""), v.Len)
}

func (a *asm) count(s api.Stmt) {
	again, behind := a.label(), a.label()
	v, cell := a.variable(s.Name), a.cell(s.Name, "")
	a.expression(s.X, v.Type)
	a.put("STORE", cell)
	a.put(again + ":")
	a.expression(s.Y, v.Type)
	a.put("LOAD", cell)
	if s.By > 0 {
		a.put("TWO >=", typeNames[v.Type])
	} else {
		a.put("TWO <=", typeNames[v.Type])
	}
	a.put("FALSE", behind)
	a.statements(s.Body, behind)
	a.put("LOAD", cell)
	a.put("PUSH", typeNames[v.Type], s.By)
	a.put("TWO +", typeNames[v.Type])
	a.put("STORE", cell)
	a.put("JUMP", again)
	a.put(behind + ":")
}

func (a *asm) choose(s api.Stmt, exit string) {
	t, _ := typed.Type(a.vars, s.X)
	if t == 0 {
		t = api.TDint
	}
	behind := a.label()
	for _, arm := range s.Arms {
		body, next := a.label(), a.label()
		for _, n := range arm.Labels {
			follows := a.label()
			a.expression(s.X, t)
			a.put("PUSH", typeNames[t], n)
			a.put("TWO =", typeNames[t])
			a.put("FALSE", follows)
			a.put("JUMP", body)
			a.put(follows + ":")
		}
		a.put("JUMP", next)
		a.put(body + ":")
		a.statements(arm.Body, exit)
		a.put("JUMP", behind)
		a.put(next + ":")
	}
	a.statements(s.Else, exit)
	a.put(behind + ":")
}

// refCode answers the lines of the code of p, which is right, however many they are.
func refCode(p api.Program) []string {
	a := asm{vars: p.Vars}
	a.statements(p.Body, "")
	a.put("END")
	return a.numbered()
}

// refExpr answers the lines of the code of the expression x, which fits t.
func refExpr(vars []api.Var, x []api.Part, t int) []string {
	a := asm{vars: vars}
	a.expression(x, t)
	return a.numbered()
}

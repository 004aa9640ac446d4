package gen

import (
	"cmp"

	"capstan/api"
	"capstan/typed"
)

func (m *maker) statements(list []api.Stmt) {
	for _, s := range list {
		if m.isTooLong() {
			return
		}
		m.statement(s)
	}
}

func (m *maker) statement(s api.Stmt) {
	switch s.Kind {
	case api.SSet:
		m.set(s)
	case api.SIf:
		m.branch(s)
	case api.SWhile:
		m.loop(func(begin int) {
			m.expression(s.X, api.TBool)
			m.exit(api.IFalse)
			m.statements(s.Body)
			m.add(api.Instr{Op: api.IJump, A: begin})
		})
	case api.SRepeat:
		m.loop(func(begin int) {
			m.statements(s.Body)
			m.expression(s.X, api.TBool)
			m.add(api.Instr{Op: api.IFalse, A: begin})
		})
	case api.SFor:
		m.count(s)
	case api.SCase:
		m.choose(s)
	case api.SCall:
		m.call(s)
	case api.SExit:
		m.exit(api.IJump)
	case api.SReturn:
		m.add(api.Instr{Op: api.IEnd})
	}
}

// set adds the code of an SSet.
func (m *maker) set(s api.Stmt) {
	at, v, _ := typed.Place(m.vars, s.Name)
	if len(s.Index) == 0 {
		m.expression(s.X, v.Type)
		m.add(api.Instr{Op: api.IStore, A: at})
		return
	}
	m.expression(s.Index, m.indexType(s.Index))
	m.expression(s.X, v.Type)
	m.add(api.Instr{Op: api.IStoreX, A: at, B: v.Len})
}

// indexType answers for which type an index is folded that a statement has.
func (m *maker) indexType(index []api.Part) int {
	if typed.Fits(m.vars, index, api.TInt) == api.OK {
		return api.TInt
	}
	return api.TDint
}

// branch adds the code of an SIf.
func (m *maker) branch(s api.Stmt) {
	m.expression(s.X, api.TBool)
	otherwise := m.jump(api.IFalse)
	m.statements(s.Body)
	if len(s.Else) == 0 {
		otherwise()
		return
	}
	behind := m.jump(api.IJump)
	otherwise()
	m.statements(s.Else)
	behind()
}

// count adds the code of an SFor.
func (m *maker) count(s api.Stmt) {
	at, v, _ := typed.Place(m.vars, s.Name)
	load, store := api.Instr{Op: api.ILoad, A: at}, api.Instr{Op: api.IStore, A: at}
	goesOn := api.NGe
	if s.By < 0 {
		goesOn = api.NLe
	}
	m.expression(s.X, v.Type)
	m.add(store)
	m.loop(func(begin int) {
		m.expression(s.Y, v.Type)
		m.add(load, api.Instr{Op: api.ITwo, A: goesOn, B: v.Type})
		m.exit(api.IFalse)
		m.statements(s.Body)
		m.add(load, api.Instr{Op: api.IPush, A: v.Type, N: s.By}, api.Instr{Op: api.ITwo, A: api.NAdd, B: v.Type}, store)
		m.add(api.Instr{Op: api.IJump, A: begin})
	})
}

// choose adds the code of an SCase.
func (m *maker) choose(s api.Stmt) {
	t, _ := typed.Type(m.vars, s.X)
	t = cmp.Or(t, api.TDint)
	x, _ := Expr(m.vars, s.X, t)
	var behind []func()
	for _, arm := range s.Arms {
		nextArm := m.tests(x, t, arm.Labels)
		m.statements(arm.Body)
		behind = append(behind, m.jump(api.IJump))
		nextArm()
	}
	m.statements(s.Else)
	patch(behind)
}

// tests adds those that hold each label against the value of the type t that the code x makes: one that is met goes behind all of them. It answers what lets the case go on behind the arm, if none is met.
func (m *maker) tests(x []api.Instr, t int, labels []int64) (nextArm func()) {
	var arm []func()
	for _, n := range labels {
		if m.isTooLong() {
			break
		}
		m.add(x...)
		m.add(api.Instr{Op: api.IPush, A: t, N: n}, api.Instr{Op: api.ITwo, A: api.NEq, B: t})
		nextTest := m.jump(api.IFalse)
		arm = append(arm, m.jump(api.IJump))
		nextTest()
	}
	nextArm = m.jump(api.IJump)
	patch(arm)
	return nextArm
}

// call adds the code of an SCall.
func (m *maker) call(s api.Stmt) {
	at, v, _ := typed.Place(m.vars, s.Name)
	for _, a := range s.Args {
		cell, t := fieldCell(at, v, a.Name)
		m.expression(a.X, t)
		m.add(api.Instr{Op: api.IStore, A: cell})
	}
	m.add(api.Instr{Op: api.ICall, A: v.Type - api.Block, B: at})
}

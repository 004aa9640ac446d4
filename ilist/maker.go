package ilist

import (
	"capstan/api"
	"capstan/num"
)

// maker makes the code of lines, one behind the other.
type maker struct {
	vars   []api.Var
	code   []api.Instr
	under  int // the type of the value under way; 0: there is none
	labels map[string]int
	jumps  []jumpTo
}

// jumpTo is a jump whose place is not known yet: where it stands in the code, where its line begins, and its label.
type jumpTo struct {
	from, at int
	label    string
}

func (m *maker) add(code ...api.Instr) {
	m.code = append(m.code, code...)
}

// lines makes the code of all lines, or answers the place at which one is wrong, and why.
func (m *maker) lines(r *reader) (at int, e api.Errno) {
	for !r.isAtEnd() {
		at := r.token().At
		l, ok := r.line()
		if !ok {
			return at, api.ErrStmt
		}
		if e := m.line(l, at); e != api.OK {
			return at, e
		}
	}
	if m.under != 0 {
		return r.token().At, api.ErrStmt
	}
	m.add(api.Instr{Op: api.IEnd})
	return m.land()
}

// land lets all jumps go to their labels, or answers the place of the first one whose label is not there.
func (m *maker) land() (at int, e api.Errno) {
	for _, j := range m.jumps {
		to, ok := m.labels[j.label]
		if !ok {
			return j.at, api.ErrLabel
		}
		m.code[j.from].A = to
	}
	return 0, api.OK
}

// line makes the code of a line that begins at the place at.
func (m *maker) line(l line, at int) api.Errno {
	if _, ok := m.labels[l.on.name]; ok && l.does == label {
		return api.ErrLabel
	}
	if l.takes != (m.under != 0) {
		return api.ErrStmt
	}
	switch l.does {
	case label:
		m.labels[l.on.name] = len(m.code)
	case load:
		return m.load(l)
	case store:
		return m.store(l)
	case set:
		return m.set(l)
	case two:
		return m.two(l)
	case one:
		return m.one(l)
	case end:
		m.add(api.Instr{Op: api.IEnd})
	case jump:
		m.jump(api.IJump, l, at)
	case branch:
		return m.branch(l, at)
	case call:
		return m.call(l)
	}
	return api.OK
}

func (m *maker) load(l line) api.Errno {
	x, e := m.find(l.on)
	if e != api.OK {
		return e
	}
	if x.typ == 0 {
		x.typ = typeAlone(x.n)
	}
	if l.turned && x.typ != api.TBool {
		return api.ErrType
	}
	if !x.fits() {
		return api.ErrRange
	}
	m.add(x.brought())
	if l.turned {
		m.turn()
	}
	m.under = x.typ
	return api.OK
}

func (m *maker) store(l line) api.Errno {
	x, e := m.target(l.on)
	if e != api.OK {
		return e
	}
	if x.typ != m.under {
		return api.ErrType
	}
	m.add(x.stored())
	m.under = 0
	return api.OK
}

func (m *maker) set(l line) api.Errno {
	x, e := m.target(l.on)
	if e != api.OK {
		return e
	}
	if m.under != api.TBool || x.typ != api.TBool {
		return api.ErrType
	}
	behind := len(m.code) + 3
	m.add(api.Instr{Op: api.IFalse, A: behind}, api.Instr{Op: api.IPush, A: api.TBool, N: l.to}, x.stored())
	m.under = 0
	return api.OK
}

func (m *maker) two(l line) api.Errno {
	x, e := m.find(l.on)
	if e != api.OK {
		return e
	}
	if x.typ == 0 && (m.under == api.TInt || m.under == api.TDint) {
		x.typ = m.under
	}
	if x.typ != m.under || l.turned && x.typ != api.TBool {
		return api.ErrType
	}
	result, e := num.Result(l.op, x.typ)
	if e != api.OK {
		return e
	}
	if !x.fits() {
		return api.ErrRange
	}
	m.add(x.brought())
	if l.turned {
		m.turn()
	}
	m.add(api.Instr{Op: api.ITwo, A: l.op, B: x.typ})
	m.under = result
	return api.OK
}

func (m *maker) one(l line) api.Errno {
	if _, e := num.Result(l.op, m.under); e != api.OK {
		return e
	}
	m.add(api.Instr{Op: api.IOne, A: l.op, B: m.under})
	return api.OK
}

// turn adds what turns a BOOL.
func (m *maker) turn() {
	m.add(api.Instr{Op: api.IOne, A: api.NNot, B: api.TBool})
}

func (m *maker) branch(l line, at int) api.Errno {
	if m.under != api.TBool {
		return api.ErrType
	}
	if l.turned {
		m.turn()
	}
	m.jump(api.IFalse, l, at)
	m.under = 0
	return api.OK
}

// jump adds a jump to the line's label, wherever that is.
func (m *maker) jump(op int, l line, at int) {
	m.jumps = append(m.jumps, jumpTo{from: len(m.code), at: at, label: l.on.name})
	m.add(api.Instr{Op: op})
}

func (m *maker) call(l line) api.Errno {
	cell, kind, e := m.block(l.on.name)
	if e != api.OK {
		return e
	}
	m.add(api.Instr{Op: api.ICall, A: kind, B: cell})
	return api.OK
}

package gen

import "capstan/api"

// maker makes the code of statements that are right, one behind the other.
type maker struct {
	vars  []api.Var
	code  []api.Instr
	exits []func() // what lets the jumps out of the innermost loop go to where the code ends
}

func (m *maker) add(code ...api.Instr) {
	m.code = append(m.code, code...)
}

// isTooLong answers whether there is more code than may be. What goes through statements or labels stops then, since they can ask for far more than there is room for.
func (m *maker) isTooLong() bool {
	return len(m.code) > api.MaxCode
}

// expression adds the code of x, folded for the type t.
func (m *maker) expression(x []api.Part, t int) {
	code, _ := Expr(m.vars, x, t)
	m.add(code...)
}

// jump adds a jump to a place that is not known yet, and answers what lets it go to where the code ends by then.
func (m *maker) jump(op int) (toHere func()) {
	at := len(m.code)
	m.add(api.Instr{Op: op})
	return func() { m.code[at].A = len(m.code) }
}

// exit adds a jump behind the innermost loop.
func (m *maker) exit(op int) {
	m.exits = append(m.exits, m.jump(op))
}

// loop adds the code of a loop by a function that is told where it begins. What leaves it goes behind all that the function adds.
func (m *maker) loop(round func(begin int)) {
	outer := m.exits
	m.exits = nil
	round(len(m.code))
	patch(m.exits)
	m.exits = outer
}

// patch lets all these jumps go to where the code ends.
func patch(jumps []func()) {
	for _, toHere := range jumps {
		toHere()
	}
}

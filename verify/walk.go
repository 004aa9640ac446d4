package verify

import "capstan/api"

// walk goes through the code of an image that may be, place by place, with what lies on the stack there.
type walk struct {
	x       api.Image
	reached []bool
	ahead   []stack // of each place that is reached: the stack that it is reached with
	waiting places  // what is reached, and was not looked at as yet
	deepest int
}

func newWalk(x api.Image) *walk {
	return &walk{x: x, reached: make([]bool, len(x.Code)), ahead: make([]stack, len(x.Code))}
}

// goThrough looks at all that is reached, and answers the first thing that is wrong. Each place waits once at most, so it ends.
func (w *walk) goThrough() api.Fault {
	w.reach(0, stack{})
	for {
		at, more := w.waiting.takeLeast()
		if !more {
			return api.Fault{}
		}
		if f := w.lookAt(at); f.Code != api.OK {
			return f
		}
	}
}

// lookAt answers what is wrong at the place, or where it goes on.
func (w *walk) lookAt(at int) api.Fault {
	i := w.x.Code[at]
	s := w.ahead[at]
	if !s.pass(w.x.Types, i) {
		return api.Fault{At: at, Code: api.ErrStack}
	}
	w.deepest = max(w.deepest, s.many)
	for _, next := range goesOn(at, i) {
		if next == len(w.x.Code) {
			return api.Fault{At: at, Code: api.ErrJump}
		}
		if !w.reach(next, s) {
			return api.Fault{At: next, Code: api.ErrStack}
		}
	}
	return api.Fault{}
}

// reach tells that the place is reached with the stack; it answers false, if it was reached with another one.
func (w *walk) reach(at int, s stack) bool {
	if w.reached[at] {
		return w.ahead[at].types == s.types
	}
	w.reached[at] = true
	w.ahead[at] = s
	w.waiting.add(at)
	return true
}

// goesOn answers the places with which the instruction at a place goes on, in the order in which they are reached.
func goesOn(at int, i api.Instr) []int {
	switch i.Op {
	case api.IEnd:
		return nil
	case api.IJump:
		return []int{i.A}
	case api.IFalse:
		return []int{at + 1, i.A}
	}
	return []int{at + 1}
}

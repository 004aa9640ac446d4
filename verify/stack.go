package verify

import (
	"capstan/api"
	"capstan/num"
)

// stack is the types of the values that lie there, the lowest first. Behind them is 0, which is no type: so two stacks are the same, if their arrays are.
type stack struct {
	types [api.MaxStack]uint8
	many  int
}

// take takes what lies on top; it answers false, if that is nothing, or of none of these types.
func (s *stack) take(types ...int) bool {
	if s.many == 0 {
		return false
	}
	for _, t := range types {
		if int(s.types[s.many-1]) == t {
			s.many--
			s.types[s.many] = 0
			return true
		}
	}
	return false
}

// leave lays a value of the type t on top; it answers false, if there is no room for it.
func (s *stack) leave(t int) bool {
	if s.many == len(s.types) {
		return false
	}
	s.types[s.many] = uint8(t)
	s.many++
	return true
}

func (s *stack) takeIndex() bool {
	return s.take(api.TInt, api.TDint)
}

// pass takes what the instruction takes, and leaves what it leaves, among cells of these types; it answers false, if that does not go.
func (s *stack) pass(cells []int, i api.Instr) bool {
	switch i.Op {
	case api.IPush:
		return s.leave(i.A)
	case api.ILoad:
		return s.leave(cells[i.A])
	case api.IStore:
		return s.take(cells[i.A])
	case api.ILoadX:
		return s.takeIndex() && s.leave(cells[i.A])
	case api.IStoreX:
		return s.take(cells[i.A]) && s.takeIndex()
	case api.ITwo:
		made, _ := num.Result(i.A, i.B)
		return s.take(i.B) && s.take(i.B) && s.leave(made)
	case api.IOne:
		return s.take(i.B) && s.leave(i.B)
	case api.ITo:
		return s.take(i.A) && s.leave(i.B)
	case api.IFalse:
		return s.take(api.TBool)
	}
	return true
}

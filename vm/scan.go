package vm

import (
	"capstan/api"
	"capstan/block"
	"capstan/num"
	"capstan/typed"
)

// scan is one that is under way. Its code is verified: what an instruction takes lies there, of the right types, and there is room for what it leaves; so none of that is looked at again.
type scan struct {
	code   []api.Instr
	cells  []int64
	now    int64
	at     int // the place of the instruction that is done, or comes next
	used   int
	traced bool
	places []int // of the instructions that took ticks, if it is traced
	stack  [api.MaxStack]int64
	many   int // how many lie on the stack
}

// run does one instruction a tick, until the scan is over, and answers its trap. Each instruction has its label; those that just go on with the next one meet at behind.
func (s *scan) run(budget int) (trap int) {
	var i api.Instr
next:
	if s.used == budget {
		return api.TBudget
	}
	i = s.tick()
	switch i.Op {
	case api.IPush:
		goto push
	case api.ILoad:
		goto load
	case api.IStore:
		goto store
	case api.ILoadX:
		goto loadX
	case api.IStoreX:
		goto storeX
	case api.ITwo, api.IOne, api.ITo:
		goto reckon
	case api.IJump:
		goto jump
	case api.IFalse:
		goto jumpIfFalse
	case api.ICall:
		goto call
	}
	return api.TDone // IEnd is all that is left
push:
	s.leave(i.N)
	goto behind
load:
	s.leave(s.cells[i.A])
	goto behind
store:
	s.cells[i.A] = s.take()
	goto behind
loadX:
	trap = s.loadX(i.A, i.B)
	goto behind
storeX:
	trap = s.storeX(i.A, i.B)
	goto behind
reckon:
	trap = s.reckon(i)
	goto behind
jumpIfFalse:
	if s.take() != 0 {
		goto behind
	}
jump:
	s.at = i.A
	goto next
call:
	s.call(i.A, i.B)
behind:
	if trap != api.TDone {
		return trap
	}
	s.at++
	goto next
}

// tick answers the instruction that comes next, which takes a tick, whatever becomes of it.
func (s *scan) tick() api.Instr {
	s.used++
	if s.traced {
		s.places = append(s.places, s.at)
	}
	return s.code[s.at]
}

func (s *scan) leave(n int64) {
	s.stack[s.many] = n
	s.many++
}

func (s *scan) take() int64 {
	s.many--
	return s.stack[s.many]
}

// takeCell takes an index among so many cells from first on, and answers its cell, or false, if it is none of these.
func (s *scan) takeCell(first, many int) (cell int, there bool) {
	index := s.take()
	if index < 0 || index >= int64(many) {
		return 0, false
	}
	return first + int(index), true
}

func (s *scan) loadX(first, many int) (trap int) {
	cell, there := s.takeCell(first, many)
	if !there {
		return api.TIndex
	}
	s.leave(s.cells[cell])
	return api.TDone
}

func (s *scan) storeX(first, many int) (trap int) {
	n := s.take()
	cell, there := s.takeCell(first, many)
	if !there {
		return api.TIndex
	}
	s.cells[cell] = n
	return api.TDone
}

// reckon does ITwo, IOne and ITo. Their values are of the right types, so that a division by 0 is all that chapter 4 refuses.
func (s *scan) reckon(i api.Instr) (trap int) {
	n := s.take()
	var e api.Errno
	switch i.Op {
	case api.ITwo:
		n, e = num.Two(i.A, i.B, s.take(), n)
	case api.IOne:
		n, e = num.One(i.A, i.B, n)
	default:
		n, e = num.Convert(i.A, i.B, n)
	}
	if e != api.OK {
		return api.TZero
	}
	s.leave(n)
	return api.TDone
}

// call has a block of this kind step, whose cells lie from first on.
func (s *scan) call(kind, first int) {
	fields, _ := typed.Fields(kind)
	own := s.cells[first : first+len(fields)]
	behind, _ := block.Step(kind, own, s.now)
	copy(own, behind)
}

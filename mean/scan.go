package mean

import (
	"capstan/api"
	"capstan/block"
	"capstan/num"
)

// scan is one that is under way. Its statements are right, and their expressions folded: what chapter 9 refuses is not looked at again.
type scan struct {
	places map[named]place
	cells  []int64
	now    int64
	left   int // how many ticks of the budget are left
}

// over is the trap by which a scan ends: it is carried up by a panic, from however deep within statements and expressions.
type over int

// caught does what is to be done, and answers by which trap that was ended; TDone, if it came to its own end.
func caught(do func()) (trap int) {
	defer func() {
		if end := recover(); end != nil {
			trap = int(end.(over))
		}
	}()
	do()
	return api.TDone
}

// tick takes as many ticks off the budget. Where they are not all left, the scan ends, and what they are for is not done.
func (s *scan) tick(many int) {
	if s.left < many {
		s.left = 0
		panic(over(api.TBudget))
	}
	s.left -= many
}

// program does all statements of a program, and the end behind them.
func (s *scan) program(body []api.Stmt) {
	s.list(body)
	s.tick(1)
}

// list does the statements, one behind the other, up to one that leaves the innermost loop; it answers whether one does.
func (s *scan) list(l []api.Stmt) (leaves bool) {
	for _, x := range l {
		if s.one(x) {
			return true
		}
	}
	return false
}

// one does the statement, and answers whether the innermost loop around it is left by it.
func (s *scan) one(x api.Stmt) (leaves bool) {
	switch x.Kind {
	case api.SSet:
		s.set(x)
	case api.SIf:
		return s.ifs(x)
	case api.SWhile:
		s.whiles(x)
	case api.SRepeat:
		s.repeats(x)
	case api.SFor:
		s.fors(x)
	case api.SCase:
		return s.cases(x)
	case api.SCall:
		s.call(x)
	case api.SExit:
		s.tick(1)
		return true
	case api.SReturn:
		s.tick(1)
		panic(over(api.TDone))
	}
	return false
}

func (s *scan) set(x api.Stmt) {
	at := s.places[named{name: x.Name}]
	index := int64(0)
	if len(x.Index) > 0 {
		index = s.worth(x.Index)
	}
	n := s.worth(x.X)
	s.tick(1)
	s.cells[at.element(index)] = n
}

// holds reckons a condition, and takes the tick that goes by it.
func (s *scan) holds(x []api.Part) bool {
	n := s.worth(x)
	s.tick(1)
	return n == 1
}

func (s *scan) ifs(x api.Stmt) (leaves bool) {
	if !s.holds(x.X) {
		return s.list(x.Else)
	}
	if s.list(x.Body) {
		return true
	}
	if len(x.Else) > 0 {
		s.tick(1)
	}
	return false
}

func (s *scan) whiles(x api.Stmt) {
	for s.holds(x.X) && !s.list(x.Body) {
		s.tick(1)
	}
}

func (s *scan) repeats(x api.Stmt) {
	for !s.list(x.Body) && !s.holds(x.X) {
	}
}

func (s *scan) fors(x api.Stmt) {
	at := s.places[named{name: x.Name}]
	n := s.worth(x.X)
	s.tick(1)
	s.cells[at.first] = n
	for {
		last := s.worth(x.Y)
		s.tick(3)
		n := s.cells[at.first]
		if x.By > 0 && n > last || x.By < 0 && n < last {
			return
		}
		if s.list(x.Body) {
			return
		}
		s.tick(4)
		s.cells[at.first], _ = num.Two(api.NAdd, at.t, s.cells[at.first], x.By)
		s.tick(1)
	}
}

func (s *scan) cases(x api.Stmt) (leaves bool) {
	for _, a := range x.Arms {
		if s.isOne(x.X, a.Labels) {
			s.tick(1)
			if s.list(a.Body) {
				return true
			}
			s.tick(1)
			return false
		}
		s.tick(1)
	}
	return s.list(x.Else)
}

// isOne answers whether x is one of the labels; for each it is reckoned anew.
func (s *scan) isOne(x []api.Part, labels []int64) bool {
	for _, label := range labels {
		n := s.worth(x)
		s.tick(3)
		if n == label {
			return true
		}
	}
	return false
}

func (s *scan) call(x api.Stmt) {
	for _, a := range x.Args {
		n := s.worth(a.X)
		s.tick(1)
		s.cells[s.places[named{name: x.Name, field: a.Name}].first] = n
	}
	s.tick(1)
	at := s.places[named{name: x.Name}]
	own := s.cells[at.first : at.first+at.many]
	behind, _ := block.Step(at.t-api.Block, own, s.now)
	copy(own, behind)
}

package mean

import (
	"capstan/api"
	"capstan/num"
)

// value is one that waits for what works on it, with its type.
type value struct {
	n int64
	t int
}

// worth answers what an expression that is folded is worth, and takes a tick for each of its parts.
func (s *scan) worth(x []api.Part) int64 {
	var waiting []value
	for _, p := range x {
		s.tick(1)
		rest := len(waiting) - takes(p)
		waiting = append(waiting[:rest], s.part(p, waiting[rest:]))
	}
	return waiting[0].n
}

// takes answers how many values the part works on.
func takes(p api.Part) int {
	switch {
	case p.Kind == api.PIndex, p.Kind == api.PTo, p.Kind == api.POp && p.N >= api.NNeg:
		return 1
	case p.Kind == api.POp:
		return 2
	}
	return 0
}

// part answers what the part makes of the values that it works on.
func (s *scan) part(p api.Part, of []value) value {
	switch p.Kind {
	case api.PNum:
		return value{n: p.N, t: p.T}
	case api.PVar, api.PField:
		at := s.places[named{name: p.S, field: p.F}]
		return value{n: s.cells[at.first], t: at.t}
	case api.PIndex:
		at := s.places[named{name: p.S}]
		return value{n: s.cells[at.element(of[0].n)], t: at.t}
	case api.PTo:
		n, _ := num.Convert(of[0].t, p.T, of[0].n)
		return value{n: n, t: p.T}
	}
	return operation(int(p.N), of)
}

// operation answers what the operation makes of one value, or of two. They are of a type that has it, so that a division by 0 is all that chapter 4 refuses.
func operation(op int, of []value) value {
	t := of[0].t
	var n int64
	var e api.Errno
	if len(of) == 1 {
		n, e = num.One(op, t, of[0].n)
	} else {
		n, e = num.Two(op, t, of[0].n, of[1].n)
	}
	if e != api.OK {
		panic(over(api.TZero))
	}
	t, _ = num.Result(op, t)
	return value{n: n, t: t}
}

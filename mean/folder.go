package mean

import (
	"slices"

	"capstan/api"
	"capstan/fold"
	"capstan/typed"
)

// folder makes statements that are right ready for a scan: each expression is folded once, however often it is reckoned.
type folder struct {
	vars   []api.Var
	places map[named]place
}

// all answers the statements, with those within them, in memory of its own.
func (f folder) all(l []api.Stmt) []api.Stmt {
	var own []api.Stmt
	for _, s := range l {
		own = append(own, f.one(s))
	}
	return own
}

func (f folder) one(s api.Stmt) api.Stmt {
	switch s.Kind {
	case api.SSet:
		s.Index, s.X = f.index(s.Index), f.fold(s.X, f.typeOf(s.Name, ""))
	case api.SIf, api.SWhile, api.SRepeat:
		s.X = f.fold(s.X, api.TBool)
	case api.SFor:
		t := f.typeOf(s.Name, "")
		s.X, s.Y = f.fold(s.X, t), f.fold(s.Y, t)
	case api.SCase:
		s.X = f.choice(s.X)
	case api.SCall:
		s.Args = f.args(s.Name, s.Args)
	}
	s.Body, s.Else, s.Arms = f.all(s.Body), f.all(s.Else), f.arms(s.Arms)
	return s
}

func (f folder) typeOf(name, field string) int {
	return f.places[named{name: name, field: field}].t
}

// fold answers x, folded for a type that it is known to fit.
func (f folder) fold(x []api.Part, t int) []api.Part {
	whole, _ := fold.Fold(f.about(x), x, t)
	return whole
}

// about answers the variables that x names: all that are handed down are looked at again for each of its parts.
func (f folder) about(x []api.Part) []api.Var {
	var l []api.Var
	for _, v := range f.vars {
		if slices.ContainsFunc(x, func(p api.Part) bool { return p.S == v.Name }) {
			l = append(l, v)
		}
	}
	return l
}

// index answers an index, folded; nothing, if there is none.
func (f folder) index(x []api.Part) []api.Part {
	if len(x) == 0 {
		return nil
	}
	if typed.Fits(f.about(x), x, api.TInt) == api.OK {
		return f.fold(x, api.TInt)
	}
	return f.fold(x, api.TDint)
}

// choice answers what a case goes by, folded.
func (f folder) choice(x []api.Part) []api.Part {
	t, _ := typed.Type(f.about(x), x)
	if t == 0 {
		t = api.TDint
	}
	return f.fold(x, t)
}

func (f folder) arms(l []api.Arm) []api.Arm {
	var own []api.Arm
	for _, a := range l {
		own = append(own, api.Arm{Labels: a.Labels, Body: f.all(a.Body)})
	}
	return own
}

func (f folder) args(block string, l []api.Arg) []api.Arg {
	var own []api.Arg
	for _, a := range l {
		own = append(own, api.Arg{Name: a.Name, X: f.fold(a.X, f.typeOf(block, a.Name))})
	}
	return own
}

package typed

import (
	"cmp"
	"slices"

	"capstan/api"
	"capstan/decl"
	"capstan/num"
)

// Check answers the number of the first statement of the program p that is not right, and why.
func Check(p api.Program) (at int, e api.Errno) {
	if e := decl.Check(p); e != api.OK {
		return 0, e
	}
	names := []string{p.Name}
	for _, v := range p.Vars {
		names = append(names, v.Name)
	}
	if hasTwice(names) {
		return 0, api.ErrName
	}
	if _, _, e := Cells(p.Vars); e != api.OK {
		return 0, e
	}
	w := walk{vars: p.Vars}
	if e := w.through(p.Body, false); e != api.OK {
		return w.at, e
	}
	return 0, api.OK
}

// hasTwice answers whether something is in the list more than once. The list is lost by it.
func hasTwice[T cmp.Ordered](list []T) bool {
	n := len(list)
	slices.Sort(list)
	return len(slices.Compact(list)) < n
}

// walk goes through statements, each ahead of those within it; at is the number of the one that it is at.
type walk struct {
	vars []api.Var
	at   int
}

// through goes on as long as statements are right, and answers why the first one is not.
func (w *walk) through(list []api.Stmt, inLoop bool) api.Errno {
	for _, s := range list {
		if e := right(w.vars, s, inLoop); e != api.OK {
			return e
		}
		w.at++
		if e := w.within(s, inLoop || isLoop(s)); e != api.OK {
			return e
		}
	}
	return api.OK
}

func (w *walk) within(s api.Stmt, inLoop bool) api.Errno {
	if e := w.through(s.Body, inLoop); e != api.OK {
		return e
	}
	for _, arm := range s.Arms {
		if e := w.through(arm.Body, inLoop); e != api.OK {
			return e
		}
	}
	return w.through(s.Else, inLoop)
}

func isLoop(s api.Stmt) bool {
	return s.Kind == api.SWhile || s.Kind == api.SRepeat || s.Kind == api.SFor
}

// right answers whether the statement s is right, but for those within it.
func right(vars []api.Var, s api.Stmt, inLoop bool) api.Errno {
	switch s.Kind {
	case api.SSet:
		return setRight(vars, s)
	case api.SIf, api.SWhile, api.SRepeat:
		return fitsIn(vars, s.X, api.TBool)
	case api.SFor:
		return forRight(vars, s)
	case api.SCase:
		return caseRight(vars, s)
	case api.SCall:
		return callRight(vars, s)
	case api.SExit:
		if !inLoop {
			return api.ErrKind
		}
	}
	return api.OK
}

func setRight(vars []api.Var, s api.Stmt) api.Errno {
	indexed := len(s.Index) > 0
	v, e := findToSet(vars, s.Name, shape{array: indexed})
	if e != api.OK {
		return e
	}
	if indexed {
		if _, e := wholeIn(vars, s.Index); e != api.OK {
			return e
		}
	}
	return fitsIn(vars, s.X, v.Type)
}

func forRight(vars []api.Var, s api.Stmt) api.Errno {
	v, e := findToSet(vars, s.Name, shape{})
	if e != api.OK {
		return e
	}
	if v.Type != api.TInt && v.Type != api.TDint {
		return api.ErrType
	}
	if e := fitsIn(vars, s.X, v.Type); e != api.OK {
		return e
	}
	if e := fitsIn(vars, s.Y, v.Type); e != api.OK {
		return e
	}
	if !num.Fits(v.Type, s.By) {
		return api.ErrRange
	}
	return api.OK
}

func caseRight(vars []api.Var, s api.Stmt) api.Errno {
	var labels []int64
	for _, arm := range s.Arms {
		labels = append(labels, arm.Labels...)
	}
	if hasTwice(slices.Clone(labels)) {
		return api.ErrKind
	}
	k, e := wholeIn(vars, s.X)
	if e != api.OK {
		return e
	}
	for _, n := range labels {
		if !num.Fits(k.typeOr(api.TDint), n) {
			return api.ErrRange
		}
	}
	return api.OK
}

func callRight(vars []api.Var, s api.Stmt) api.Errno {
	v, e := find(vars, s.Name, shape{block: true})
	if e != api.OK {
		return e
	}
	if !argsMayBeSet(v, s.Args) {
		return api.ErrKind
	}
	for _, a := range s.Args {
		f, _ := fieldOf(v, a.Name)
		if e := fitsIn(vars, a.X, f.Type); e != api.OK {
			return e
		}
	}
	return api.OK
}

// argsMayBeSet answers whether all of args are fields of the block v that a call may set, none of them twice.
func argsMayBeSet(v api.Var, args []api.Arg) bool {
	var names []string
	for _, a := range args {
		f, _ := fieldOf(v, a.Name)
		if !f.Set {
			return false
		}
		names = append(names, a.Name)
	}
	return !hasTwice(names)
}

// findToSet is find, of a variable that a statement sets: inputs are set from outside alone.
func findToSet(vars []api.Var, name string, as shape) (api.Var, api.Errno) {
	v, e := find(vars, name, as)
	if e == api.OK && v.Dir == api.DInput {
		return api.Var{}, api.ErrKind
	}
	return v, e
}

// fitsIn is Fits, of variables and an expression that may be.
func fitsIn(vars []api.Var, x []api.Part, t int) api.Errno {
	k, e := kindOf(vars, x)
	if e != api.OK {
		return e
	}
	return k.fits(t)
}

// wholeIn answers the kind of the expression x, which must be a TInt, a TDint, or none yet that can be a TDint.
func wholeIn(vars []api.Var, x []api.Part) (kind, api.Errno) {
	k, e := kindOf(vars, x)
	if e != api.OK {
		return kind{}, e
	}
	return k, k.among(api.TInt)
}

package mean_test

import (
	"cmp"
	"slices"
	"strconv"
	"strings"
	"testing"

	"capstan/api"
	"capstan/block"
	"capstan/fold"
	"capstan/mean"
	"capstan/typed"
)

// spans has the least and the greatest value of each type.
var spans = [][2]int64{{}, {0, 1}, {-32768, 32767}, {-2147483648, 2147483647}, {-2147483648, 2147483647}}

func fits(t int, n int64) bool { return spans[t][0] <= n && n <= spans[t][1] }

// wrapped answers n wrapped into the type t.
func wrapped(t int, n int64) int64 {
	period := spans[t][1] - spans[t][0] + 1
	n = (n - spans[t][0]) % period
	return (n+period)%period + spans[t][0]
}

func truth(is bool) int64 { return map[bool]int64{true: 1}[is] }

// ofTwo answers what an operation makes of two values, or false at a division by 0.
func ofTwo(op, t int, a, b int64) (int64, bool) {
	if (op == api.NDiv || op == api.NMod) && b == 0 {
		return 0, false
	}
	switch op {
	case api.NAdd:
		return wrapped(t, a+b), true
	case api.NSub:
		return wrapped(t, a-b), true
	case api.NMul:
		return wrapped(t, a*b), true
	case api.NDiv:
		return wrapped(t, a/b), true
	case api.NMod:
		return a - a/b*b, true
	case api.NAnd:
		return a & b, true
	case api.NOr:
		return a | b, true
	case api.NXor:
		return a ^ b, true
	}
	sign := strconv.Itoa(1 + cmp.Compare(a, b))
	return truth(strings.Contains(map[int]string{api.NEq: "1", api.NNe: "02", api.NLt: "0", api.NLe: "01", api.NGt: "2", api.NGe: "12"}[op], sign)), true
}

func ofOne(op, t int, a int64) int64 {
	switch {
	case op == api.NNeg:
		return wrapped(t, -a)
	case t == api.TBool:
		return 1 - a
	}
	return -1 - a
}

// act is what a tick does; it answers what the next one does: nil, if the program is over.
type act func() act

// worth is a value on the reference's stack, with its type.
type worth struct {
	n int64
	t int
}

// ref is a program that is played tick by tick. Each statement is made into what its first tick does, of what the ticks behind it do; so nothing is carried up.
type ref struct {
	vars   []api.Var
	types  []int
	cells  []int64
	now    int64
	values []worth
	trap   int
	folded map[string][]api.Part
}

func (r *ref) take() worth {
	last := len(r.values) - 1
	v := r.values[last]
	r.values = r.values[:last]
	return v
}

func (r *ref) traps(trap int) act {
	r.trap = trap
	return nil
}

// idle answers so many ticks that nothing is seen of, and what comes behind them.
func idle(many int, then act) act {
	if many == 0 {
		return then
	}
	return func() act { return idle(many-1, then) }
}

// cell answers where a variable, or a block's field, lies.
func (r *ref) cell(name, field string) int {
	at, v, _ := typed.Place(r.vars, name)
	if field != "" {
		fields, _ := typed.Fields(v.Type - api.Block)
		at += slices.IndexFunc(fields, func(f typed.Field) bool { return f.Name == field })
	}
	return at
}

// expression answers the ticks of an expression, for the type t, and what comes behind them, where its worth lies last among the values.
func (r *ref) expression(x []api.Part, t int, then act) act {
	key := strconv.Itoa(t)
	for _, p := range x {
		key += "," + strings.Join([]string{strconv.Itoa(p.Kind), strconv.FormatInt(p.N, 10), strconv.Itoa(p.T), p.S, p.F}, " ")
	}
	if r.folded[key] == nil {
		whole, e := fold.Fold(r.vars, x, t)
		if e != api.OK {
			panic(key)
		}
		r.folded[key] = whole
	}
	return r.parts(r.folded[key], then)
}

func (r *ref) parts(l []api.Part, then act) act {
	if len(l) == 0 {
		return then
	}
	return func() act {
		if !r.part(l[0]) {
			return nil
		}
		return r.parts(l[1:], then)
	}
}

// part does a part, or tells the trap and answers false.
func (r *ref) part(p api.Part) bool {
	made := worth{p.N, p.T}
	switch p.Kind {
	case api.PVar, api.PField:
		at := r.cell(p.S, p.F)
		made = worth{r.cells[at], r.types[at]}
	case api.PIndex:
		at, v, _ := typed.Place(r.vars, p.S)
		i := r.take().n
		if i < 0 || i > int64(v.Len)-1 {
			r.trap = api.TIndex
			return false
		}
		made = worth{r.cells[at+int(i)], v.Type}
	case api.PTo:
		made.n = wrapped(p.T, r.take().n)
	case api.POp:
		b := r.take()
		op := int(p.N)
		if made = b; op >= api.NNeg {
			made.n = ofOne(op, b.t, b.n)
			break
		}
		n, is := ofTwo(op, b.t, r.take().n, b.n)
		if !is {
			r.trap = api.TZero
			return false
		}
		if made.n = n; op >= api.NEq {
			made.t = api.TBool
		}
	}
	r.values = append(r.values, made)
	return true
}

// list answers what statements do, of what comes behind them, and behind the innermost loop.
func (r *ref) list(l []api.Stmt, then, exit act) act {
	for _, s := range slices.Backward(l) {
		then = r.later(s, then, exit)
	}
	return then
}

// later answers what a statement does; it is made when its first tick comes, so that what is not reached costs nothing.
func (r *ref) later(s api.Stmt, then, exit act) act {
	return func() act {
		first := r.statement(s, then, exit)
		if first == nil {
			return nil
		}
		return first()
	}
}

func (r *ref) statement(s api.Stmt, then, exit act) act {
	switch s.Kind {
	case api.SSet:
		return r.set(s, then)
	case api.SIf:
		behind := then
		if len(s.Else) > 0 {
			behind = idle(1, then)
		}
		return r.expression(s.X, api.TBool, func() act {
			if r.take().n == 1 {
				return r.list(s.Body, behind, exit)
			}
			return r.list(s.Else, then, exit)
		})
	case api.SWhile:
		return r.expression(s.X, api.TBool, func() act {
			if r.take().n == 1 {
				return r.list(s.Body, func() act { return r.later(s, then, exit) }, then)
			}
			return then
		})
	case api.SRepeat:
		return r.list(s.Body, r.later(api.Stmt{X: s.X}, func() act {
			if r.take().n == 1 {
				return then
			}
			return r.later(s, then, exit)
		}, nil), then)
	case api.SFor:
		return r.loop(s, then)
	case api.SCase:
		return r.choose(s, s.Arms, then, exit)
	case api.SCall:
		return r.call(s, s.Args, then)
	case api.SExit:
		return func() act { return exit }
	case api.SReturn:
		return func() act { return r.traps(api.TDone) }
	}
	return r.expression(s.X, api.TBool, then) // an UNTIL's
}

func (r *ref) set(s api.Stmt, then act) act {
	at, v, _ := typed.Place(r.vars, s.Name)
	if len(s.Index) == 0 {
		return r.expression(s.X, v.Type, func() act {
			r.cells[at] = r.take().n
			return then
		})
	}
	y := api.TInt
	if typed.Fits(r.vars, s.Index, api.TInt) != api.OK {
		y = api.TDint
	}
	return r.expression(s.Index, y, r.expression(s.X, v.Type, func() act {
		n, i := r.take().n, r.take().n
		if i < 0 || i > int64(v.Len)-1 {
			return r.traps(api.TIndex)
		}
		r.cells[at+int(i)] = n
		return then
	}))
}

func (r *ref) loop(s api.Stmt, then act) act {
	at, v, _ := typed.Place(r.vars, s.Name)
	var turn func() act
	turn = func() act {
		return r.expression(s.Y, v.Type, idle(2, func() act {
			last := r.take().n
			if s.By > 0 && r.cells[at] > last || s.By < 0 && r.cells[at] < last {
				return then
			}
			more := func() act {
				r.cells[at] = wrapped(v.Type, r.cells[at]+s.By)
				return idle(1, r.lazily(turn))
			}
			return r.list(s.Body, idle(3, more), then)
		}))
	}
	return r.expression(s.X, v.Type, func() act {
		r.cells[at] = r.take().n
		return r.lazily(turn)
	})
}

// lazily answers the first of these ticks, which are made when it comes.
func (r *ref) lazily(make func() act) act {
	return func() act { return make()() }
}

func (r *ref) choose(s api.Stmt, arms []api.Arm, then, exit act) act {
	if len(arms) == 0 {
		return r.list(s.Else, then, exit)
	}
	y, _ := typed.Type(r.vars, s.X)
	next := idle(1, r.choose(s, arms[1:], then, exit)) // ahead of the next arm
	for _, label := range slices.Backward(arms[0].Labels) {
		other := next
		next = r.expression(s.X, cmp.Or(y, api.TDint), idle(2, func() act {
			if r.take().n != label {
				return other
			}
			return idle(1, r.list(arms[0].Body, idle(1, then), exit))
		}))
	}
	return next
}

func (r *ref) call(s api.Stmt, args []api.Arg, then act) act {
	at, v, _ := typed.Place(r.vars, s.Name)
	fields, _ := typed.Fields(v.Type - api.Block)
	if len(args) == 0 {
		return func() act {
			l, e := block.Step(v.Type-api.Block, slices.Clone(r.cells[at:at+len(fields)]), r.now)
			if e != api.OK {
				panic(e)
			}
			copy(r.cells[at:], l)
			return then
		}
	}
	cell := r.cell(s.Name, args[0].Name)
	return r.expression(args[0].X, fields[cell-at].Type, func() act {
		r.cells[cell] = r.take().n
		return r.call(s, args[1:], then)
	})
}

// played answers, for each budget from 0 to the greatest one, how the program's scan ends; of budgets that are more than the scan needs only one.
func played(p api.Program, cells []int64, now int64, greatest int) []mean.End {
	types, _, _ := typed.Cells(p.Vars)
	r := &ref{vars: p.Vars, types: types, cells: slices.Clone(cells), now: now, folded: map[string][]api.Part{}}
	next := r.list(p.Body, func() act { return r.traps(api.TDone) }, nil)
	var l []mean.End
	for used := 0; used <= greatest; used++ {
		end := mean.End{Cells: slices.Clone(r.cells), Used: used, Trap: api.TBudget}
		if next == nil {
			end.Trap = r.trap
			return append(l, end, mean.End{Cells: end.Cells, Used: used, Trap: end.Trap})
		}
		l = append(l, end)
		next = next()
	}
	return l
}

// follows fails the test unless the program's scan ends as the reference's, with each budget up to the greatest one, or one more than it needs; it answers how it ends with that.
func follows(t *testing.T, p api.Program, cells []int64, now int64, greatest int) mean.End {
	t.Helper()
	l := played(p, cells, now, greatest)
	for budget, want := range l {
		ends(t, p, cells, now, budget, want)
	}
	return l[len(l)-1]
}

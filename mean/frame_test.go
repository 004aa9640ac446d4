package mean_test

import (
	"fmt"
	"maps"
	"slices"
	"strconv"
	"strings"
	"testing"

	"capstan/api"
	"capstan/decl"
	"capstan/expr"
	"capstan/gen"
	"capstan/lex"
	"capstan/mean"
	"capstan/typed"
	"capstan/vm"
)

// heads are variables of all kinds, as a program's text has them: of 97 cells, I the first one, Q's LAST the last one.
const heads = `program p
	var_input i : bool; in1 : int; id : dint; it : time; end_var
	var_output o : bool; on : int; end_var
	var b : bool; n : int; d : dint; e : time;
		xb : array[0..1] of bool; x : array[0..3] of int; xd : array[0..0] of dint; xt : array[0..31] of time;
		t : ton; f : tof; g : tp; c : ctu; k : ctd; r : r_trig; w : f_trig; s : sr; z : rs; q : quad;
	end_var `

// program answers the program that has these statements behind the heads.
func program(body string) api.Program {
	p, f := decl.Parse(heads + body + " end_program")
	if f != (api.Fault{}) {
		panic(fmt.Sprint(body, f))
	}
	return p
}

var vars = program("").Vars

// parts answers the parts of an expression's text.
func parts(text string) []api.Part {
	l, f := lex.Tokens(text)
	x, next, g := expr.Parse(l, 0)
	if f != (api.Fault{}) || g != (api.Fault{}) || next != len(l)-1 {
		panic(fmt.Sprint(text, f, g))
	}
	return x
}

func number(n int64) api.Part { return api.Part{Kind: api.PNum, N: n} }

func of(t int, n int64) api.Part { return api.Part{Kind: api.PNum, N: n, T: t} }

func op(n int64) api.Part { return api.Part{Kind: api.POp, N: n} }

func variable(s string) api.Part { return api.Part{Kind: api.PVar, S: s} }

func index(s string) api.Part { return api.Part{Kind: api.PIndex, S: s} }

func field(s, f string) api.Part { return api.Part{Kind: api.PField, S: s, F: f} }

func to(t int) api.Part { return api.Part{Kind: api.PTo, T: t} }

// cellOf answers the cell of one of the heads, as texts name it: n, x[2], t.q.
func cellOf(name string) int {
	name = strings.ToUpper(name)
	name, element, isOne := strings.Cut(strings.TrimSuffix(name, "]"), "[")
	name, field, isField := strings.Cut(name, ".")
	at, v, e := typed.Place(vars, name)
	if e != api.OK {
		panic(name)
	}
	if isOne {
		n, _ := strconv.Atoi(element)
		return at + n
	}
	if isField {
		fields, _ := typed.Fields(v.Type - api.Block)
		return at + slices.IndexFunc(fields, func(f typed.Field) bool { return f.Name == field })
	}
	return at
}

// put sets the cells that the text names: n=5 x[1]=-7.
func put(cells []int64, text string) {
	for _, s := range strings.Fields(text) {
		name, n, _ := strings.Cut(s, "=")
		var e error
		if cells[cellOf(name)], e = strconv.ParseInt(n, 10, 64); e != nil {
			panic(s)
		}
	}
}

// cellsOf answers the heads' cells, 0 but for those that the text sets.
func cellsOf(text string) []int64 {
	types, _, _ := typed.Cells(vars)
	cells := make([]int64, len(types))
	put(cells, text)
	return cells
}

// told tells which cells differ from others.
func told(got, from []int64) string {
	if len(got) != len(from) {
		return fmt.Sprint(len(got), " cells")
	}
	var l []string
	for n := range got {
		if got[n] != from[n] {
			l = append(l, fmt.Sprintf("cell %d: %d, not %d", n, got[n], from[n]))
		}
	}
	return strings.Join(l, "; ")
}

// shown answers a program's text; most of it, if that is long.
func shown(p api.Program) string {
	s, _ := decl.Show(p)
	_, body, _ := strings.Cut(s, "END_VAR VAR B")
	_, body, is := strings.Cut(body, "END_VAR")
	if !is {
		body = s
	}
	return fmt.Sprintf("%.700s", body)
}

// ends fails the test unless the program's scan, of these, ends so; and the cells handed in stay.
func ends(t *testing.T, p api.Program, cells []int64, now int64, budget int, want mean.End) {
	t.Helper()
	given := slices.Clone(cells)
	got, at, e := mean.Scan(p, given, now, budget)
	if at != 0 || e != api.OK || got.Used != want.Used || got.Trap != want.Trap || !slices.Equal(got.Cells, want.Cells) {
		t.Errorf("%s: now %d, budget %d: %d ticks, trap %d (at %d, %d), not %d, %d; %s", shown(p), now, budget, got.Used, got.Trap, at, e, want.Used, want.Trap, told(got.Cells, want.Cells))
	}
	if !slices.Equal(given, cells) {
		t.Errorf("%s: the cells handed in are changed", shown(p))
	}
}

// refuses fails the test unless Scan refuses these so, with nothing beside it.
func refuses(t *testing.T, p api.Program, cells []int64, now int64, budget int, at int, e api.Errno) {
	t.Helper()
	given := slices.Clone(cells)
	end, gotAt, got := mean.Scan(p, given, now, budget)
	if gotAt != at || got != e || len(end.Cells) > 0 || end.Used != 0 || end.Trap != 0 {
		t.Errorf("%s: %.100v, now %d, budget %d: %d, %d, not %d, %d; %v", shown(p), cells, now, budget, gotAt, got, at, e, end)
	}
	if !slices.Equal(given, cells) {
		t.Errorf("%s: the cells handed in are changed", shown(p))
	}
}

// takes fails the test unless Scan refuses nothing of these.
func takes(t *testing.T, p api.Program, cells []int64, now int64, budget int) {
	t.Helper()
	if end, at, e := mean.Scan(p, cells, now, budget); at != 0 || e != api.OK || len(end.Cells) != len(cells) || end.Used > budget {
		t.Errorf("%s: %.100v, now %d, budget %d: %d, %d; %v", shown(p), cells, now, budget, at, e, end)
	}
}

// machineOf answers chapter 16's machine of the image that chapter 14 makes of the program; nil, if its code is too long.
func machineOf(t *testing.T, p api.Program) *vm.Machine {
	t.Helper()
	x, _, e := gen.Gen(p)
	if e == api.ErrLong {
		return nil
	}
	m, at, f := vm.New(x)
	if e != api.OK || f != api.OK {
		t.Fatalf("%s: %d; %d, %d", shown(p), e, at, f)
	}
	return m
}

// traps are the words by which a trail ends.
var traps = map[string]int{"done": api.TDone, "zero": api.TZero, "index": api.TIndex, "on": api.TBudget}

// trail is what a scan does, tick by tick.
type trail struct {
	changes map[int]string // by the tick: the cells that it sets
	last    int            // the tick that ends it (of one that goes on: up to which it is told)
	trap    int
}

// trailOf answers the trail of a text: 4 n=8, 5 done. It ends by a trap's word: done, zero, index; or, if it goes on, by on.
func trailOf(text string) trail {
	r := trail{changes: map[int]string{}}
	trap := ""
	for s := range strings.SplitSeq(text, ", ") {
		tick, what, _ := strings.Cut(s, " ")
		r.last, _ = strconv.Atoi(tick)
		if trap = what; strings.Contains(what, "=") {
			r.changes[r.last] = what
		}
	}
	is := false
	if r.trap, is = traps[trap]; !is {
		panic(text)
	}
	return r
}

// end answers how the scan that has this trail ends within the budget.
func (r trail) end(cells []int64, budget int) mean.End {
	want := mean.End{Cells: slices.Clone(cells), Used: min(budget, r.last), Trap: api.TBudget}
	for _, tick := range slices.Sorted(maps.Keys(r.changes)) {
		if tick <= budget {
			put(want.Cells, r.changes[tick])
		}
	}
	if budget >= r.last {
		want.Trap = r.trap
	}
	return want
}

// goes is a program's statements, cells (with all others 0), a time, and the trail of the scan.
type goes struct {
	body, cells string
	now         int64
	trail       string
}

// all fails the test unless each scan goes its trail, with any budget: so do the statements, the machine, and the reference.
func all(t *testing.T, rows []goes) {
	t.Helper()
	for _, row := range rows {
		p := program(row.body)
		cells := cellsOf(row.cells)
		r := trailOf(row.trail)
		m := machineOf(t, p)
		for budget := range r.last + 2 {
			if r.trap == api.TBudget && budget > r.last {
				break
			}
			ends(t, p, cells, row.now, budget, r.end(cells, budget))
			agrees(t, p, m, cells, row.now, budget)
		}
		if r.trap != api.TBudget {
			ends(t, p, cells, row.now, api.MaxTicks, r.end(cells, api.MaxTicks))
		}
		follows(t, p, cells, row.now, r.last+1)
		if t.Failed() {
			t.Fatalf("%s, with %s, now %d: %s", row.body, row.cells, row.now, row.trail)
		}
	}
}

// agrees fails the test unless the scan on the machine, if there is one, ends as the program's does; it answers how that ends.
func agrees(t *testing.T, p api.Program, m *vm.Machine, cells []int64, now int64, budget int) mean.End {
	t.Helper()
	got, at, e := mean.Scan(p, cells, now, budget)
	if at != 0 || e != api.OK {
		t.Errorf("%s: now %d, budget %d: %d, %d", shown(p), now, budget, at, e)
	}
	if m == nil {
		return got
	}
	want, f := m.Scan(cells, now, budget)
	if f != api.OK || got.Used != want.Used || got.Trap != want.Trap || !slices.Equal(got.Cells, want.Cells) {
		t.Errorf("%s: now %d, budget %d: %d ticks, trap %d; the machine (%d): %d, %d; %s", shown(p), now, budget, got.Used, got.Trap, f, want.Used, want.Trap, told(got.Cells, want.Cells))
	}
	return got
}

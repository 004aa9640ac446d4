package vm_test

import (
	"cmp"
	"fmt"
	"slices"
	"testing"

	"capstan/api"
	"capstan/block"
	"capstan/decl"
	"capstan/fold"
	"capstan/gen"
	"capstan/typed"
	"capstan/vm"
)

// player does what a program's statements say, without any code: each thing that chapter 14 has an instruction for takes a tick.
type player struct {
	vars   []api.Var
	types  []int // of the cells
	folded map[*api.Part][]api.Part
	cells  []int64
	now    int64
	left   int // ticks of the budget
}

// over is how a scan ends: it is carried up by a panic.
type over int

// tick takes so many ticks, one by one.
func (p *player) tick(many int) {
	for range many {
		if p.left == 0 {
			panic(over(api.TBudget))
		}
		p.left--
	}
}

// cell answers where the variable, or the block's field, lies.
func (p *player) cell(name, field string) int {
	at, v, _ := typed.Place(p.vars, name)
	if field != "" {
		fields, _ := typed.Fields(v.Type - api.Block)
		at += slices.IndexFunc(fields, func(f typed.Field) bool { return f.Name == field })
	}
	return at
}

func (p *player) element(name string, index int64) *int64 {
	at, v, _ := typed.Place(p.vars, name)
	if index < 0 || index >= int64(v.Len) {
		panic(over(api.TIndex))
	}
	return &p.cells[at+int(index)]
}

// worth answers what the expression is worth, for the type t.
func (p *player) worth(x []api.Part, t int) int64 {
	if p.folded[&x[0]] == nil {
		l, e := fold.Fold(p.vars, x, t)
		if e != api.OK {
			panic(fmt.Sprint(x, t, e))
		}
		p.folded[&x[0]] = l
	}
	var values []int64
	var of []int // their types
	take := func() (int64, int) {
		last := len(values) - 1
		n, y := values[last], of[last]
		values, of = values[:last], of[:last]
		return n, y
	}
	lay := func(n int64, y int) { values, of = append(values, n), append(of, y) }
	for _, part := range p.folded[&x[0]] {
		p.tick(1)
		switch part.Kind {
		case api.PNum:
			lay(part.N, part.T)
		case api.PVar, api.PField:
			cell := p.cell(part.S, part.F)
			lay(p.cells[cell], p.types[cell])
		case api.PIndex:
			n, _ := take()
			_, v, _ := typed.Place(p.vars, part.S)
			lay(*p.element(part.S, n), v.Type)
		case api.PTo:
			n, _ := take()
			lay(wrapped(part.T, n), part.T)
		default:
			p.operate(int(part.N), take, lay)
		}
	}
	return values[0]
}

func (p *player) operate(op int, take func() (int64, int), lay func(int64, int)) {
	b, y := take()
	if op >= api.NNeg {
		lay(ofOne(op, y, b), y)
		return
	}
	a, _ := take()
	n, is := ofTwo(op, y, a, b)
	if !is {
		panic(over(api.TZero))
	}
	if op >= api.NEq {
		y = api.TBool
	}
	lay(n, y)
}

func (p *player) holds(x []api.Part) bool {
	n := p.worth(x, api.TBool)
	p.tick(1)
	return n == 1
}

// list does the statements; it answers true, if an EXIT ends the innermost loop.
func (p *player) list(l []api.Stmt) bool {
	for _, s := range l {
		if p.statement(s) {
			return true
		}
	}
	return false
}

func (p *player) statement(s api.Stmt) bool {
	switch s.Kind {
	case api.SSet:
		p.set(s)
	case api.SIf:
		if !p.holds(s.X) {
			return p.list(s.Else)
		}
		if p.list(s.Body) {
			return true
		}
		p.tick(len(s.Else[:min(1, len(s.Else))]))
	case api.SWhile:
		for p.holds(s.X) && !p.list(s.Body) {
			p.tick(1)
		}
	case api.SRepeat:
		for !p.list(s.Body) && !p.holds(s.X) {
		}
	case api.SFor:
		p.loop(s)
	case api.SCase:
		return p.choose(s)
	case api.SCall:
		p.call(s)
	case api.SExit:
		p.tick(1)
		return true
	case api.SReturn:
		p.tick(1)
		panic(over(api.TDone))
	}
	return false
}

func (p *player) set(s api.Stmt) {
	at, v, _ := typed.Place(p.vars, s.Name)
	if len(s.Index) == 0 {
		n := p.worth(s.X, v.Type)
		p.tick(1)
		p.cells[at] = n
		return
	}
	index := api.TDint
	if typed.Fits(p.vars, s.Index, api.TInt) == api.OK {
		index = api.TInt
	}
	k := p.worth(s.Index, index)
	n := p.worth(s.X, v.Type)
	p.tick(1)
	*p.element(s.Name, k) = n
}

func (p *player) loop(s api.Stmt) {
	at, v, _ := typed.Place(p.vars, s.Name)
	n := p.worth(s.X, v.Type)
	p.tick(1)
	p.cells[at] = n
	for {
		last := p.worth(s.Y, v.Type)
		p.tick(3)
		if s.By > 0 && p.cells[at] > last || s.By < 0 && p.cells[at] < last || p.list(s.Body) {
			return
		}
		p.tick(4)
		p.cells[at] = wrapped(v.Type, p.cells[at]+s.By)
		p.tick(1)
	}
}

func (p *player) choose(s api.Stmt) bool {
	y, _ := typed.Type(p.vars, s.X)
	for _, arm := range s.Arms {
		for _, label := range arm.Labels {
			n := p.worth(s.X, cmp.Or(y, api.TDint))
			p.tick(3)
			if n != label {
				continue
			}
			p.tick(1)
			if p.list(arm.Body) {
				return true
			}
			p.tick(1)
			return false
		}
		p.tick(1)
	}
	return p.list(s.Else)
}

func (p *player) call(s api.Stmt) {
	at, v, _ := typed.Place(p.vars, s.Name)
	fields, _ := typed.Fields(v.Type - api.Block)
	for _, a := range s.Args {
		cell := p.cell(s.Name, a.Name)
		n := p.worth(a.X, fields[cell-at].Type)
		p.tick(1)
		p.cells[cell] = n
	}
	p.tick(1)
	l, e := block.Step(v.Type-api.Block, slices.Clone(p.cells[at:at+len(fields)]), p.now)
	if e != api.OK {
		panic(e)
	}
	copy(p.cells[at:], l)
}

// meant answers how a scan of the program ends, by its statements.
func meant(p api.Program, cells []int64, now int64, budget int) (s vm.End) {
	types, _, _ := typed.Cells(p.Vars)
	play := &player{vars: p.Vars, types: types, folded: map[*api.Part][]api.Part{}, cells: slices.Clone(cells), now: now, left: budget}
	defer func() {
		trap, is := recover().(over)
		if !is {
			panic("a program is over without a trap")
		}
		s = vm.End{Cells: play.cells, Used: budget - play.left, Trap: int(trap)}
	}()
	play.list(p.Body)
	play.tick(1)
	panic(over(api.TDone))
}

// heads declares variables of each type, arrays and blocks, for the bodies of programs.
const heads = `program p
	var_input i : bool; in1 : int; end_var
	var_output o : bool; on : int; end_var
	var b : bool; n : int; d : dint; e : time;
		xb : array[0..1] of bool; x : array[0..3] of int; xd : array[0..7] of dint; xt : array[0..31] of time;
		t : ton; k : ctu; r : r_trig; s : sr; q : quad;
	end_var `

// compiled answers a text's program, its image, and a machine of that.
func compiled(t *testing.T, text string) (api.Program, api.Image, *vm.Machine) {
	t.Helper()
	p, f := decl.Parse(text)
	x, at, e := gen.Compile(text)
	if f.Code != api.OK || e != api.OK {
		t.Fatalf("%.600s: %v; %d, %d", text, f, at, e)
	}
	return p, x, machine(t, x)
}

// play fails the test unless a scan of the machine ends as the program's statements say, and as its code does; it answers that.
func play(t *testing.T, m *vm.Machine, p api.Program, x api.Image, cells []int64, now int64, budget int) vm.End {
	t.Helper()
	got := holds(t, m, x, cells, now, budget)
	want := meant(p, cells, now, budget)
	if !slices.Equal(got.Cells, want.Cells) || got.Used != want.Used || got.Trap != want.Trap {
		t.Errorf("%s: now %d, budget %d, %v: %v, but it says %v", brief(x), now, budget, cells, got.End, want)
	}
	return got.End
}

// 16.2: each kind of statement, scan behind scan, with budgets that are enough, and all that are not
func TestStatements(t *testing.T) {
	for _, body := range []string{
		"", "return;", "n := n + 1;", "n := 7; return; n := 8;", "x[n] := x[n - 1] + 1;", "n := n + 1; x[n] := n; on := x[n] * 2;", "n := 7 / n;", "n := n + 1; n := 7 mod (3 - n);", "xb[on] := not xb[on]; on := 1 - on;", "d := d + 70000; e := to_time(d) + t#5s; n := to_int(d);",
		"if b then n := 1; end_if; b := not b;", "if n > 2 then n := 0; else n := n + 1; end_if;", "if n = 0 then n := 5; elsif n = 5 then n := 7; elsif b then n := 0; else b := true; end_if;", "if n > 3 then return; end_if; n := n + 1;",
		"n := 0; while n < 5 do n := n + 1; end_while;", "while not b do n := n + 1; if n = 3 then exit; end_if; end_while; n := 0;", "while n < 9 do n := n + 1; if n = 4 then return; end_if; end_while; d := d + 1;", "while true do end_while;",
		"repeat n := n + 1; until n mod 5 = 0 end_repeat;", "repeat n := n + 1; if n > 7 then exit; end_if; until n mod 5 = 0 end_repeat;", "repeat until false end_repeat;",
		"d := 0; for n := 1 to 5 do d := d + to_dint(n); end_for;", "d := 1; for n := 5 to 1 by -2 do d := d * to_dint(n); end_for;", "for n := 5 to 1 do d := d + 1; end_for;", "for n := 1 to 5 by -1 do d := d + 1; end_for;", "for n := 32766 to 32767 do d := d + 1; end_for;", "for n := 0 to 4 do x[n] := n; end_for;", "for n := 0 to 9 do for on := n to 9 do if n + on = 11 then exit; end_if; d := d + 1; end_for; if d > 30 then return; end_if; end_for;",
		"case n of 0: n := 2; 1, 2: n := 3; else n := 0; end_case;", "case d of 70000: d := -1; -1: d := 0; else d := 70000; end_case;", "n := n + 1; case n of 1: 2: on := 7; return; 3: else on := n; end_case; d := d + 1;", "case 3 of 1: n := 1; 3: n := n + 2; end_case;", "while true do case n of 3: exit; 4: return; else n := n + 1; end_case; end_while; n := 4; d := 7;",
		"t(in := true, pt := t#5ms); b := t.q;", "t(in := not t.q, pt := t#3ms); k(cu := t.q, pv := 3, r := k.q);", "b := not b; r(clk := b); k(cu := r.q); on := k.cv;", "s(s1 := n = 1, r := n = 3); n := (n + 1) mod 5; o := s.q1;", "q(a := b, b := i); d := q.cv; b := not b;", "t(); t(); k(); k();", "r(clk := true); r(clk := false); r(clk := true); o := r.q;",
	} {
		p, x, m := compiled(t, heads+body+" end_program")
		cells := m.First()
		for now := int64(0); now < 12; now++ {
			for budget := range 60 {
				play(t, m, p, x, cells, now, budget)
			}
			cells = play(t, m, p, x, cells, now, 3000).Cells
			cells[0] = now / 2 % 2 // the input
		}
	}
}

package mean_test

import (
	"fmt"
	"math"
	"slices"
	"strings"
	"testing"

	"capstan/api"
	"capstan/typed"
)

// refusesAlways fails the test unless Scan refuses the program so, and chapter 9 does, whatever the scan is to begin with.
func refusesAlways(t *testing.T, p api.Program, at int, e api.Errno) {
	t.Helper()
	if gotAt, got := typed.Check(p); gotAt != at || got != e {
		t.Errorf("%s: Check tells %d, %d, not %d, %d", shown(p), gotAt, got, at, e)
	}
	right := cellsOf("")
	for _, cells := range [][]int64{right, nil, {}, {5}, right[1:], append(slices.Clone(right), 0), slices.Repeat([]int64{math.MaxInt64}, 97)} {
		refuses(t, p, cells, 0, 100, at, e)
		refuses(t, p, cells, -1, 100, at, e)
		refuses(t, p, cells, 0, -1, at, e)
		refuses(t, p, cells, 1<<31, api.MaxTicks+1, at, e)
		refuses(t, p, cells, 0, 0, at, e)
	}
}

// 17.1: statements that are not right, with their place, ahead of all that is wrong in what a scan begins with
func TestWrongStatements(t *testing.T) {
	for _, c := range []struct {
		body string
		at   int
		e    api.Errno
	}{
		{"nobody := 1;", 0, api.ErrName}, {"n := nobody;", 0, api.ErrName}, {"p := 1;", 0, api.ErrName}, {"n := 1; nobody();", 1, api.ErrName}, {"for nobody := 1 to 2 do end_for;", 0, api.ErrName},
		{"in1 := 1;", 0, api.ErrKind}, {"n := 1; n := 2; x := 1;", 2, api.ErrKind}, {"t := 1;", 0, api.ErrKind}, {"n[0] := 1;", 0, api.ErrKind}, {"t(q := b);", 0, api.ErrKind}, {"t(in := b, in := b);", 0, api.ErrKind}, {"case n of 1: 1: end_case;", 0, api.ErrKind}, {"n();", 0, api.ErrKind},
		{"exit;", 0, api.ErrKind}, {"if b then exit; end_if;", 1, api.ErrKind}, {"while b do exit; end_while; exit;", 2, api.ErrKind}, {"case n of 1: while b do end_while; exit; end_case;", 2, api.ErrKind},
		{"n := b;", 0, api.ErrType}, {"d := n;", 0, api.ErrType}, {"if n then end_if;", 0, api.ErrType}, {"while true do if b then n := 1; else n := e; end_if; end_while;", 3, api.ErrType}, {"x[b] := 1;", 0, api.ErrType}, {"repeat until 1 end_repeat;", 0, api.ErrType}, {"for b := true to true do end_for;", 0, api.ErrType}, {"case b of 1: end_case;", 0, api.ErrType},
		{"n := n + 40000;", 0, api.ErrRange}, {"n := 1; for n := 1 to 2 by 40000 do end_for;", 1, api.ErrRange}, {"case n of 40000: end_case;", 0, api.ErrRange}, {"return; x[2147483648] := 1;", 1, api.ErrRange}, {"c(pv := 40000);", 0, api.ErrRange},
		{"x[b] := nobody;", 0, api.ErrType}, {"x[nobody] := t;", 0, api.ErrName}, {"while n do exit; nobody := 1; end_while;", 0, api.ErrType}, {strings.Repeat("n := 1; ", 399) + "n := b;", 399, api.ErrType},
	} {
		refusesAlways(t, program(c.body), c.at, c.e)
	}
}

// 17.1: programs that may not be, names that are there twice, too many cells
func TestWrongPrograms(t *testing.T) {
	body := program("while b do exit; end_while; exit;").Body
	one := func(v ...api.Var) []api.Var { return append(slices.Clone(vars), v...) }
	for _, p := range []api.Program{
		{}, {Name: "p"}, {Name: "IF", Vars: vars}, {Vars: vars, Body: body},
		{Name: "P", Vars: one(api.Var{})}, {Name: "P", Vars: one(api.Var{Name: "A", Type: 5})}, {Name: "P", Vars: one(api.Var{Name: "A", Type: api.TInt, Len: 33})}, {Name: "P", Vars: one(api.Var{Name: "A", Type: api.TInt, Init: 40000})}, {Name: "P", Vars: one(api.Var{Name: "A", Type: api.Block + 11})},
		{Name: "P", Vars: slices.Repeat([]api.Var{{Name: "A", Type: api.TInt}}, 65)},
		{Name: "P", Vars: vars, Body: []api.Stmt{{}}}, {Name: "P", Vars: vars, Body: []api.Stmt{{Kind: api.SExit}, {Kind: 10}}}, {Name: "P", Vars: vars, Body: []api.Stmt{{Kind: api.SSet, Name: "N"}}}, {Name: "P", Vars: vars, Body: []api.Stmt{{Kind: api.SReturn, Name: "N"}}},
		{Name: "P", Vars: vars, Body: []api.Stmt{{Kind: api.SSet, Name: "N", X: make([]api.Part, 501)}}}, {Name: "P", Vars: vars, Body: []api.Stmt{{Kind: api.SSet, Name: "N", X: []api.Part{op(api.NAdd)}}}}, {Name: "P", Vars: vars, Body: []api.Stmt{{Kind: api.SFor, Name: "N", X: parts("1"), Y: parts("2")}}},
		{Name: "P", Vars: vars, Body: slices.Repeat([]api.Stmt{{Kind: api.SReturn}}, 401)},
	} {
		refusesAlways(t, p, 0, api.ErrDecl)
	}
	refusesAlways(t, api.Program{Name: "P", Vars: one(api.Var{Name: "N", Type: api.TInt}), Body: body}, 0, api.ErrName)
	refusesAlways(t, api.Program{Name: "N", Vars: vars, Body: body}, 0, api.ErrName)
	wide := one()
	for n := range 29 {
		wide = append(wide, api.Var{Name: fmt.Sprint("V", n), Type: api.TInt, Len: 32})
	}
	refusesAlways(t, api.Program{Name: "P", Vars: wide, Body: body}, 0, api.ErrLong)
	wide[len(wide)-1].Len = 31 // 97 + 928 - 1 cells
	refuses(t, api.Program{Name: "P", Vars: wide, Body: body}, make([]int64, 1024), 0, 100, 2, api.ErrKind)
	deep := []api.Stmt{{Kind: api.SReturn}}
	for range 100000 {
		deep = []api.Stmt{{Kind: api.SWhile, X: parts("b"), Body: deep}}
	}
	refuses(t, api.Program{Name: "P", Vars: vars, Body: deep}, cellsOf(""), 0, 100, 0, api.ErrDecl)
}

// 17.1: too few cells, too many, none, ahead of all else that is wrong
func TestShapes(t *testing.T) {
	for _, v := range [][]api.Var{nil, {}, vars[:1], vars[:2], vars, {{Name: "A", Type: api.TInt, Len: 32}}, {{Name: "A", Type: api.Block + api.BQuad}}} {
		p := api.Program{Name: "P", Vars: v}
		types, _, _ := typed.Cells(v)
		for _, many := range []int{0, 1, 2, len(types) - 1, len(types) + 1, len(types) + 2, 2 * len(types), 1024, 1025, 70000} {
			if many < 0 {
				continue
			}
			cells := make([]int64, many)
			if many == len(types) {
				takes(t, p, cells, 0, 10)
				continue
			}
			refuses(t, p, cells, 0, 10, 0, api.ErrShape)
			refuses(t, p, cells, -1, 10, 0, api.ErrShape)
			refuses(t, p, cells, 0, -1, 0, api.ErrShape)
			refuses(t, p, cells, 1<<31, api.MaxTicks+1, 0, api.ErrShape)
			for n := range cells {
				cells[n] = math.MinInt64
			}
			refuses(t, p, cells, 0, 10, 0, api.ErrShape)
		}
	}
	refuses(t, program(""), nil, 0, 10, 0, api.ErrShape)
	refuses(t, program(""), []int64{}, 0, 10, 0, api.ErrShape)
	takes(t, api.Program{Name: "P"}, nil, 0, 10)
	takes(t, api.Program{Name: "P"}, []int64{}, 0, 10)
}

// 17.1: a cell that does not fit its type, just inside and just outside, each cell, whether it is used or not
func TestCellsThatDoNotFit(t *testing.T) {
	types, _, _ := typed.Cells(vars)
	for _, body := range []string{"", "n := n + 1;", "while true do end_while;"} {
		p := program(body)
		for at, y := range types {
			least, most := spans[y][0], spans[y][1]
			for _, n := range []int64{least, most, least - 1, most + 1, 1 << 32, -1 << 32, math.MinInt64, math.MaxInt64} {
				cells := cellsOf("")
				cells[at] = n
				if fits(y, n) {
					takes(t, p, cells, 0, 10)
					continue
				}
				refuses(t, p, cells, 0, 10, 0, api.ErrRange)
				refuses(t, p, cells, 0, 0, 0, api.ErrRange)
			}
		}
	}
	for cells, e := range map[string]api.Errno{"b=2": 1, "b=-1": 1, "n=32768": 1, "n=-32769": 1, "n=32767": 0, "n=-32768": 0, "d=2147483648": 1, "d=-2147483649": 1, "d=-2147483648": 0, "e=2147483648": 1, "e=-2147483648": 0, "t.q=2": 1, "t.et=-1": 0, "q.last=32768": 1, "q.last=32767": 0, "x[3]=40000": 1, "xt[31]=40000": 0, "xb[1]=3": 1} {
		if e == api.OK {
			takes(t, program("return;"), cellsOf(cells), 0, 10)
			continue
		}
		refuses(t, program("return;"), cellsOf(cells), 0, 10, 0, e)
	}
}

// 17.1: times of -1, 0, 2147483647, 2147483648, and others, whether the program asks for the time or not
func TestTimes(t *testing.T) {
	for _, body := range []string{"", "t();", "t(in := true, pt := t#5ms);"} {
		p := program(body)
		for _, now := range []int64{0, 1, 5, 65536, 2147483646, 2147483647} {
			takes(t, p, cellsOf(""), now, 10)
			takes(t, p, cellsOf(""), now, 0)
		}
		for _, now := range []int64{-1, -2, 2147483648, 2147483649, 1 << 32, 1<<32 + 5, -1 << 31, math.MinInt64, math.MaxInt64} {
			refuses(t, p, cellsOf(""), now, 10, 0, api.ErrRange)
			refuses(t, p, cellsOf(""), now, 0, 0, api.ErrRange)
		}
	}
	all(t, []goes{
		{body: "t();", cells: "t.in=1 t.pt=5", now: 0, trail: "1 t.run=1, 2 done"},
		{body: "t();", cells: "t.in=1 t.pt=5 t.run=1 t.start=2147483640", now: 2147483647, trail: "1 t.et=5 t.q=1, 2 done"},
		{body: "t();", cells: "t.in=1 t.pt=5 t.run=1 t.start=-2147483648", now: 2147483647, trail: "1 t.et=-1, 2 done"},
	})
}

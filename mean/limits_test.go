package mean_test

import (
	"fmt"
	"math"
	"slices"
	"testing"

	"capstan/api"
	"capstan/gen"
	"capstan/mean"
)

// 17.1: budgets of -1, 0, MaxTicks and MaxTicks + 1, and others that may be or not
func TestBudgets(t *testing.T) {
	for _, body := range []string{"", "return;", "n := 7;", "while true do end_while;"} {
		p := program(body)
		for _, budget := range []int{0, 1, 2, 1000, api.MaxTicks - 1, api.MaxTicks} {
			takes(t, p, cellsOf(""), 0, budget)
		}
		ends(t, p, cellsOf("n=5"), 0, 0, mean.End{Cells: cellsOf("n=5"), Trap: api.TBudget})
		for _, budget := range []int{-1, -2, api.MaxTicks + 1, api.MaxTicks + 2, -api.MaxTicks, 1 << 32, 1<<32 + 1, math.MinInt, math.MaxInt} {
			refuses(t, p, cellsOf(""), 0, budget, 0, api.ErrRange)
		}
	}
}

// 17.1: loops that have no end, with the greatest budget, and near it
func TestNoEnd(t *testing.T) {
	for _, body := range []string{
		"while true do n := n + 1; end_while;", "while true do end_while;", "repeat until false end_repeat;", "repeat d := d - 1; until n = 1 end_repeat;", "for n := 32767 to 32767 do end_for;", "for n := 1 to 2 do n := 0; d := d + 1; end_for;",
		"while true do while true do exit; end_while; end_while;", "while true do case n of 0: n := 1; 1: n := 0; end_case; end_while;", "while true do t(in := not t.q, pt := t#5ms); end_while;", "while true do if b then b := false; else b := true; end_if; end_while;",
	} {
		p := program(body)
		m := machineOf(t, p)
		for _, budget := range []int{api.MaxTicks, api.MaxTicks - 1, api.MaxTicks - 7, 60000} {
			if s := agrees(t, p, m, cellsOf(""), 0, budget); s.Used != budget || s.Trap != api.TBudget {
				t.Errorf("%s: %d ticks, trap %d", body, s.Used, s.Trap)
			}
		}
	}
	// the sixth tick, and each seventh behind it, sets N
	p := program("while true do n := n + 1; end_while;")
	for budget, n := range map[int]int64{65536: 9362, 65535: 9362, 65533: 9362, 65532: 9361, 7: 1, 6: 1, 5: 0} {
		ends(t, p, cellsOf(""), 0, budget, mean.End{Cells: cellsOf(fmt.Sprint("n=", n)), Used: budget, Trap: api.TBudget})
	}
}

// 17.1: a scan that needs just as many ticks as a budget may have, and one that needs one more
func TestGreatestScan(t *testing.T) {
	p := program("n := 1; while d < 7281 do d := d + 1; end_while;") // 2 ticks, 9 a turn, 4, and the end
	m := machineOf(t, p)
	ends(t, p, cellsOf(""), 0, api.MaxTicks, mean.End{Cells: cellsOf("n=1 d=7281"), Used: 65536, Trap: api.TDone})
	ends(t, p, cellsOf(""), 0, api.MaxTicks-1, mean.End{Cells: cellsOf("n=1 d=7281"), Used: 65535, Trap: api.TBudget})
	p = program("n := 1; b := d = 1; while d < 7281 do d := d + 1; end_while;")
	ends(t, p, cellsOf(""), 0, api.MaxTicks, mean.End{Cells: cellsOf("n=1 d=7281"), Used: 65536, Trap: api.TBudget})
	for _, budget := range []int{api.MaxTicks, api.MaxTicks - 1} {
		agrees(t, program("n := 1; while d < 7281 do d := d + 1; end_while;"), m, cellsOf(""), 0, budget)
	}
}

// 17.1: as many statements as there may be
func TestManyStatements(t *testing.T) {
	p := program("n := n + 1;")
	p.Body = slices.Repeat(p.Body, 400)
	for budget, n := range map[int]int64{0: 0, 3: 0, 4: 1, 799: 199, 800: 200, 1599: 399, 1600: 400} {
		ends(t, p, cellsOf(""), 0, budget, mean.End{Cells: cellsOf(fmt.Sprint("n=", n)), Used: budget, Trap: api.TBudget})
	}
	ends(t, p, cellsOf(""), 0, 1601, mean.End{Cells: cellsOf("n=400"), Used: 1601, Trap: api.TDone})
	p.Body = append(p.Body, p.Body[0])
	refuses(t, p, cellsOf(""), 0, 100, 0, api.ErrDecl)
}

// 17.1: a program whose code is too long for an image means something all the same
func TestTooLongForAnImage(t *testing.T) {
	p := program("n := n + 1;")
	sum := append(balanced(250, api.NAdd, variable("ON")), op(api.NNeg))
	for range 30 {
		p.Body = append(p.Body, api.Stmt{Kind: api.SSet, Name: "ON", X: sum}) // -250 times that, 501 ticks
	}
	if _, _, e := gen.Gen(p); e != api.ErrLong {
		t.Fatal(e)
	}
	on := int64(1)
	for k := range 31 {
		cells := cellsOf(fmt.Sprint("on=", on, " n=1"))
		ends(t, p, cellsOf("on=1"), 0, 4+501*k, mean.End{Cells: cells, Used: 4 + 501*k, Trap: api.TBudget})
		if k == 30 {
			ends(t, p, cellsOf("on=1"), 0, api.MaxTicks, mean.End{Cells: cells, Used: 5 + 501*30, Trap: api.TDone})
		}
		on = wrapped(api.TInt, -250*on)
	}
}

// 17.1: a case of as many arms and labels as there may be: each label is of another tick
func TestManyLabels(t *testing.T) {
	s := api.Stmt{Kind: api.SCase, X: parts("n"), Else: program("on := -1;").Body}
	for a := range 32 {
		var l []int64
		for n := range 16 {
			l = append(l, int64(a*16+n))
		}
		s.Arms = append(s.Arms, api.Arm{Labels: l, Body: program(fmt.Sprintf("on := %d;", a+1)).Body})
	}
	p := api.Program{Name: "P", Vars: vars, Body: []api.Stmt{s}}
	for n := range 513 {
		cells := cellsOf(fmt.Sprint("n=", n))
		arm := n / 16
		r := trailOf(fmt.Sprintf("%d on=%d, %d done", 4*(n+1)+arm+3, arm+1, 4*(n+1)+arm+5))
		if n == 512 {
			r = trailOf(fmt.Sprintf("%d on=-1, %d done", 4*512+32+2, 4*512+32+3))
		}
		if n%37 > 0 && n < 508 {
			continue
		}
		for _, budget := range []int{4, 5, 64, 65, r.last - 5, r.last - 4, r.last - 3, r.last - 2, r.last - 1, r.last, r.last + 1, api.MaxTicks} {
			ends(t, p, cells, 0, budget, r.end(cells, budget))
		}
	}
}

// 17.1: as many cells as there may be, as many variables, none
func TestManyCells(t *testing.T) {
	p := api.Program{Name: "P"}
	for n := range 32 {
		p.Vars = append(p.Vars, api.Var{Name: fmt.Sprint("V", n), Type: 1 + n%4, Len: 32})
	}
	p.Body = []api.Stmt{{Kind: api.SSet, Name: "V30", Index: parts("31"), X: parts("v29[30] + 1")}, {Kind: api.SSet, Name: "V31", Index: parts("31"), X: parts("t#7ms")}}
	p.Body[0].X = parts("to_dint(v29[30]) + 70000")
	cells := make([]int64, 1024)
	cells[29*32+30] = -5
	want := slices.Clone(cells)
	ends(t, p, cells, 0, 6, mean.End{Cells: want, Used: 6, Trap: api.TBudget})
	want[1023-32] = 69995
	ends(t, p, cells, 0, 7, mean.End{Cells: want, Used: 7, Trap: api.TBudget})
	want[1023] = 7
	ends(t, p, cells, 0, 100, mean.End{Cells: want, Used: 11, Trap: api.TDone})
	p.Vars = append(p.Vars, api.Var{Name: "N", Type: api.TInt})
	refuses(t, p, make([]int64, 1025), 0, 100, 0, api.ErrLong)
	p.Vars = nil
	for n := range 64 {
		p.Vars = append(p.Vars, api.Var{Name: fmt.Sprint("V", n), Type: api.TInt})
	}
	p.Body = []api.Stmt{{Kind: api.SSet, Name: "V63", X: parts("v0 - v62")}}
	cells = make([]int64, 64)
	cells[0], cells[62] = 9, 5
	want = slices.Clone(cells)
	want[63] = 4
	ends(t, p, cells, 0, 100, mean.End{Cells: want, Used: 5, Trap: api.TDone})
	p.Vars = append(p.Vars, api.Var{Name: "N", Type: api.TInt})
	refuses(t, p, make([]int64, 65), 0, 100, 0, api.ErrDecl)
	ends(t, api.Program{Name: "P"}, nil, 0, 100, mean.End{Used: 1, Trap: api.TDone})
}

// 17.1: statements that share parts, and other statements: each is of its own type
func TestSharedParts(t *testing.T) {
	x := parts("32767 + 1")
	one := []api.Stmt{{Kind: api.SSet, Name: "N", X: x}, {Kind: api.SSet, Name: "D", X: x}, {Kind: api.SSet, Name: "X", Index: parts("0"), X: x}, {Kind: api.SCase, X: x, Arms: []api.Arm{{Labels: []int64{32768}, Body: program("on := 5;").Body}}}}
	p := api.Program{Name: "P", Vars: vars, Body: append(slices.Clone(one), api.Stmt{Kind: api.SWhile, X: parts("true"), Body: append(slices.Clone(one), program("return;").Body...)})}
	r := trailOf("2 n=-32768, 4 d=32768, 7 x[0]=-32768, 14 on=5, 33 done")
	for budget := range r.last + 2 {
		ends(t, p, cellsOf(""), 0, budget, r.end(cellsOf(""), budget))
	}
	follows(t, p, cellsOf(""), 0, 100)
}

package vm_test

import (
	"fmt"
	"slices"
	"strings"
	"testing"

	"capstan/api"
)

// goes fails the test unless a scan of the code, with the laid cells so, comes by these places, one a tick, and ends so.
func goes(t *testing.T, code, cells string, budget int, places []int, trap, at int) {
	t.Helper()
	m := machine(t, image(code))
	given := with(len(laid), cells)
	end, e := m.Scan(given, 0, budget)
	l, f := m.Trace(given, 0, budget)
	if e != api.OK || f != api.OK || !slices.Equal(l, places) || end.Used != len(places) || end.Trap != trap || end.At != at {
		t.Errorf("%s: %v, %d; %v, %d; not %v, %d, %d", code, end, e, l, f, places, trap, at)
	}
	holds(t, m, image(code), given, 0, budget)
}

// 16.2, 16.3: jumps ahead, behind, to the next place, to themselves
func TestJumps(t *testing.T) {
	goes(t, "jump 2; push I 1; end", "", 9, []int{0, 2}, api.TDone, 2)
	goes(t, "jump 3; end; end; jump 1", "", 9, []int{0, 3, 1}, api.TDone, 1)
	goes(t, "jump 1; jump 2; jump 3; end", "", 9, []int{0, 1, 2, 3}, api.TDone, 3)
	goes(t, "jump 0", "", 5, []int{0, 0, 0, 0, 0}, api.TBudget, 0)
	goes(t, "push I 1; jump 1; end", "", 5, []int{0, 1, 1, 1, 1}, api.TBudget, 1)
	goes(t, "jump 1; jump 0", "", 5, []int{0, 1, 0, 1, 0}, api.TBudget, 1)
	goes(t, "jump 2; end; load 1; jump 5; end; store 7; jump 1", "1=5", 9, []int{0, 2, 3, 5, 6, 1}, api.TDone, 1)
}

// 16.2, 16.3: IFalse that takes 0 goes on at its place, else with the next one: ahead, behind, to the next place; to its own place, where no stack fits but behind an IEnd
func TestJumpsIfFalse(t *testing.T) {
	for _, c := range []struct {
		code           string
		is0, is1       []int
		trap0, at0, at int
	}{
		{"load 0; false 3; end; end", []int{0, 1, 3}, []int{0, 1, 2}, api.TDone, 3, 2}, {"load 0; false 0; end", []int{0, 1, 0, 1, 0, 1, 0, 1, 0}, []int{0, 1, 2}, api.TBudget, 1, 2}, {"load 0; false 2; end", []int{0, 1, 2}, []int{0, 1, 2}, api.TDone, 2, 2},
		{"jump 2; end; load 0; false 1; end", []int{0, 2, 3, 1}, []int{0, 2, 3, 4}, api.TDone, 1, 4}, {"push I 1; load 0; false 4; jump 1; store 1; end", []int{0, 1, 2, 4, 5}, []int{0, 1, 2, 3, 1, 2, 3, 1, 2}, api.TDone, 5, 3}, {"push B 1; load 0; false 5; false 7; end; store 4; end; end", []int{0, 1, 2, 5, 6}, []int{0, 1, 2, 3, 4}, api.TDone, 6, 4},
	} {
		goes(t, c.code, "", 9, c.is0, c.trap0, c.at0)
		trap := api.TDone
		if len(c.is1) == 9 {
			trap = api.TBudget
		}
		goes(t, c.code, "0=1", 9, c.is1, trap, c.at)
	}
	refused(t, image("push B 0; false 1; end"), 1, api.ErrStack)
	refused(t, image("push B 1; push B 0; false 2; end"), 2, api.ErrStack)
	goes(t, "end; false 1; end", "", 9, []int{0}, api.TDone, 0)
	// what is compared, and what is not, is taken alike
	goes(t, "load 1; push I 5; two < I; false 6; push B 1; store 0; end", "1=4", 9, []int{0, 1, 2, 3, 4, 5, 6}, api.TDone, 6)
	goes(t, "load 1; push I 5; two < I; false 6; push B 1; store 0; end", "1=5", 9, []int{0, 1, 2, 3, 6}, api.TDone, 6)
}

// 16.2: IEnd in the midst ends the scan, whatever stands behind it or lies on the stack
func TestEndInTheMidst(t *testing.T) {
	ends(t, "push I 5; store 1; end; push I 6; store 1; end", "", 100, end{"1=5", 3, api.TDone, 2})
	ends(t, "end; push I 6; store 1; end", "1=3", 100, end{"1=3", 1, api.TDone, 0})
	ends(t, "push I 5; push T 6; load 0; end; two + I", "", 100, end{"", 4, api.TDone, 3})
	ends(t, "load 0; false 5; push I 5; store 1; end; push I 6; store 1; end", "0=1", 100, end{"0=1 1=5", 5, api.TDone, 4})
	ends(t, "load 0; false 5; push I 5; store 1; end; push I 6; store 1; end", "", 100, end{"1=6", 5, api.TDone, 7})
	ends(t, strings.Repeat("push I 5; ", 64)+"end; end", "", 100, end{"", 65, api.TDone, 64})
}

// 16.2: budgets from 0 on to more than a scan needs: Used, the trap, the place that would have come next, the cells up to then
func TestBudgets(t *testing.T) {
	const code = "load 1; push I 1; two + I; store 1; jump 7; end; end; load 0; false 5; push I 3; loadx 6 3; end"
	places := []int{0, 1, 2, 3, 4, 7, 8, 5}
	for budget := range 12 {
		cells, used, trap, at := "", min(budget, 8), api.TBudget, 5
		if budget < 8 {
			at = places[budget]
		} else {
			trap = api.TDone
		}
		if budget >= 4 {
			cells = "1=1"
		}
		ends(t, code, "", budget, end{cells, used, trap, at})
		goes(t, code, "", budget, places[:used], trap, at)
	}
	places = []int{0, 1, 2, 3, 4, 7, 8, 9, 10}
	for budget := range 12 {
		cells, used, trap, at := "0=1 1=-32768", min(budget, 9), api.TBudget, 10
		if budget < 9 {
			at = places[budget]
		} else {
			trap = api.TIndex // in the last tick of the budget too
		}
		if budget < 4 {
			cells = "0=1 1=32767"
		}
		ends(t, code, "0=1 1=32767", budget, end{cells, used, trap, at})
		goes(t, code, "0=1 1=32767", budget, places[:used], trap, at)
	}
}

// 16.2: a budget of 0 does nothing, whatever the code is
func TestNoBudget(t *testing.T) {
	for _, code := range []string{"end", "jump 0", "jump 1; end", "push I 1; store 1; end", "push I 9; loadx 6 3; end", "call 1 13; end", "load 0; false 0; end"} {
		ends(t, code, "0=1 1=5 13=1 14=5", 0, end{"0=1 1=5 13=1 14=5", 0, api.TBudget, 0})
		goes(t, code, "", 0, nil, api.TBudget, 0)
	}
}

// 16.2: what ends a scan in the last tick of its budget is told, not the budget
func TestLastTick(t *testing.T) {
	for _, c := range []struct {
		code string
		trap int
	}{
		{"end", api.TDone}, {"push I 1; store 7; end", api.TDone}, {"jump 2; end; end", api.TDone}, {"push I 7; push I 0; two / I; end", api.TZero}, {"push D 7; push D 0; two mod D; end", api.TZero}, {"push I 3; loadx 6 3; end", api.TIndex}, {"push D -1; push I 3; storex 6 3; end", api.TIndex},
	} {
		m := machine(t, image(c.code))
		whole, _ := m.Scan(m.First(), 0, 100)
		just, e := m.Scan(m.First(), 0, whole.Used)
		less, f := m.Scan(m.First(), 0, whole.Used-1)
		if whole.Trap != c.trap || just.Trap != c.trap || just.Used != whole.Used || just.At != whole.At || e != api.OK {
			t.Errorf("%s: %v, %v, %d", c.code, whole, just, e)
		}
		if less.Trap != api.TBudget || less.Used != whole.Used-1 || less.At != whole.At || f != api.OK {
			t.Errorf("%s: %v, then %v, %d", c.code, whole, less, f)
		}
	}
}

// 16.2, 16.3: loops without an end, and long ones, use as much as may be, and no more
func TestMostTicks(t *testing.T) {
	for _, c := range []struct {
		code, behind string
		at           int
	}{
		{"jump 0", "", 0}, {"jump 1; jump 0", "", 0}, {"load 0; false 0; end", "", 0}, {"push I 1; jump 1", "", 1}, {"load 2; push D 1; two + D; store 2; jump 0", "2=13107", 1}, {"call 10 28; jump 0", "33=1", 0}, {"load 1; push I 1; two + I; store 1; jump 0", "1=13107", 1},
	} {
		want := end{c.behind, api.MaxTicks, api.TBudget, c.at}
		ends(t, c.code, "", api.MaxTicks, want)
	}
	// a loop that ends just in the last tick: 1 + 5 * 13107 ticks
	x := imageOf("D", instrs("load 0; push D 13106; two >= D; false 6; end; end; load 0; push D 1; two + D; store 0; jump 0"))
	m := machine(t, x)
	s := holds(t, m, x, []int64{13106 - 7281}, 0, api.MaxTicks)
	if s.Trap != api.TDone || s.Used != 9*7281+5 || s.At != 4 {
		t.Error(s.End)
	}
	for budget := s.Used - 2; budget < s.Used+3; budget++ {
		holds(t, m, x, []int64{13106 - 7281}, 0, budget)
	}
	l := make([]int, api.MaxTicks)
	for n := range l {
		l[n] = n % 2
	}
	goes(t, "jump 1; jump 0", "", api.MaxTicks, l, api.TBudget, 0)
}

// 16.2, 16.3: as much code as may be, gone through from the front on, and from behind
func TestMostCode(t *testing.T) {
	x := imageOf("I", slices.Repeat(instrs("push I 1; store 0"), api.MaxCode/2))
	x.Code[api.MaxCode-1] = api.Instr{Op: api.IEnd}
	s := holds(t, machine(t, x), x, x.First, 0, api.MaxTicks)
	if s.Used != api.MaxCode || s.At != api.MaxCode-1 || s.Trap != api.TDone {
		t.Error(s.End)
	}
	// to the last place, and one by one back to the place 1
	x.Code = slices.Repeat(instrs("end"), api.MaxCode)
	want := []int{0}
	for n := range x.Code {
		x.Code[n] = api.Instr{Op: api.IJump, A: max(1, n-1)}
		if n > 0 {
			want = append(want, api.MaxCode-n)
		}
	}
	x.Code[0].A, x.Code[1] = api.MaxCode-1, api.Instr{Op: api.IEnd}
	m := machine(t, x)
	s = holds(t, m, x, x.First, 0, api.MaxTicks)
	if !slices.Equal(s.places, want) || s.At != 1 || s.Trap != api.TDone {
		t.Error(s.End, fmt.Sprintf("%.100v", s.places))
	}
	for _, budget := range []int{1, 2, 4094, 4095, 4096, 4097} {
		holds(t, m, x, x.First, 0, budget)
	}
}

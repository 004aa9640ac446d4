package vm_test

import (
	"slices"
	"testing"

	"capstan/api"
	"capstan/gen"
	"capstan/vm"
)

// further fails the test unless scans with all budgets from 0 on go the same way, each further than the one before, as long as the longest does; what the longest is, it answers.
func further(t *testing.T, m *vm.Machine, cells []int64, now int64, most int) vm.End {
	t.Helper()
	whole, e := m.Scan(cells, now, most)
	places, f := m.Trace(cells, now, most)
	if e != api.OK || f != api.OK || len(places) != whole.Used || whole.Used > most {
		t.Fatalf("%s: %v, %d, %d", brief(m.Image()), whole, e, f)
	}
	if whole.Trap == api.TBudget && whole.Used != most || whole.Trap != api.TBudget && places[whole.Used-1] != whole.At {
		t.Errorf("%s: %v of %d, %v", brief(m.Image()), whole, most, places)
	}
	for budget := 0; budget <= most; budget += 1 + budget/300 {
		s, e := m.Scan(cells, now, budget)
		l, f := m.Trace(cells, now, budget)
		used := min(budget, whole.Used)
		if e != api.OK || f != api.OK || s.Used != used || !slices.Equal(l, places[:used]) {
			t.Fatalf("%s, budget %d: %v, %d; %v, %d; %v", brief(m.Image()), budget, s, e, l, f, places)
		}
		want := vm.End{Cells: s.Cells, Used: used, Trap: api.TBudget}
		if budget >= whole.Used && whole.Trap != api.TBudget {
			want = whole
		} else if budget < whole.Used {
			want.At = places[budget]
		} else {
			want.At = whole.At
		}
		if s.Trap != want.Trap || s.At != want.At || !slices.Equal(s.Cells, want.Cells) {
			t.Fatalf("%s, budget %d: %v, not %v", brief(m.Image()), budget, s, want)
		}
		for n, y := range m.Image().Types {
			if !fits(y, s.Cells[n]) {
				t.Fatalf("%s, budget %d: cell %d is %d", brief(m.Image()), budget, n, s.Cells[n])
			}
		}
	}
	return whole
}

// 16.3, 16.4: places one by one, budget by budget, of scans that end in each way
func TestFurther(t *testing.T) {
	for _, c := range []struct {
		code, cells    string
		used, trap, at int
	}{
		{"end", "", 1, api.TDone, 0}, {"push I 5; store 1; jump 5; end; end; load 1; store 7; jump 3", "", 7, api.TDone, 3}, {"load 0; false 0; end", "", 200, api.TBudget, 0}, {"load 1; push I 5; two < I; false 9; load 1; push I 1; two + I; store 1; jump 0; end", "", 50, api.TDone, 9},
		{"load 1; loadx 6 3; store 1; jump 0", "6=1 7=2 8=3", 14, api.TIndex, 1}, {"load 1; push I 1; two - I; store 1; push I 60; load 1; two / I; store 7; jump 0", "1=4", 34, api.TZero, 6}, {"call 10 28; load 28; one not B; store 28; jump 0", "", 200, api.TBudget, 0}, {"jump 0", "", 200, api.TBudget, 0},
	} {
		x := image(c.code)
		m := machine(t, x)
		cells := with(len(laid), c.cells)
		s := further(t, m, cells, 3, 200)
		if s.Used != c.used || s.Trap != c.trap || s.At != c.at {
			t.Errorf("%s: %v", c.code, s)
		}
		holds(t, m, x, cells, 3, 200)
	}
}

// 16.3: the places of a loop's scan, written out
func TestTrace(t *testing.T) {
	x, at, e := gen.Compile("program p var n : int; end_var for n := 1 to 2 do if n = 2 then exit; end_if; end_for; end_program")
	if e != api.OK {
		t.Fatal(at, e)
	}
	// 0 PUSH 1, 1 STORE; 2 PUSH 2, 3 LOAD, 4 TWO, 5 FALSE; 6 LOAD, 7 PUSH 2, 8 TWO, 9 FALSE, 10 JUMP; 11 LOAD, 12 PUSH 1, 13 TWO, 14 STORE, 15 JUMP; 16 END
	want := []int{0, 1, 2, 3, 4, 5, 6, 7, 8, 9, 11, 12, 13, 14, 15, 2, 3, 4, 5, 6, 7, 8, 9, 10, 16}
	m := machine(t, x)
	for budget := range 30 {
		l, e := m.Trace([]int64{77}, 0, budget)
		if e != api.OK || !slices.Equal(l, want[:min(budget, len(want))]) {
			t.Errorf("%d: %v, %d", budget, l, e)
		}
	}
	if s := further(t, m, []int64{77}, 0, 30); s.Trap != api.TDone || s.At != 16 || s.Cells[0] != 2 {
		t.Error(s)
	}
}

// 16.4: what a scan does hangs on the cells, now and the budget: with another of these it may be another
func TestHangsOn(t *testing.T) {
	x := image("call 1 13; load 15; false 6; load 1; loadx 6 3; store 7; end")
	m := machine(t, x)
	for _, c := range []struct {
		cells  string
		now    int64
		budget int
		want   vm.End
	}{
		{"13=1 14=5 18=1", 4, 100, vm.End{Used: 4, Trap: api.TDone, At: 6}}, {"13=1 14=5 18=1", 5, 100, vm.End{Used: 7, Trap: api.TDone, At: 6}}, {"1=3 13=1 14=5 18=1", 5, 100, vm.End{Used: 5, Trap: api.TIndex, At: 4}}, {"1=3 13=1 14=5 18=1", 4, 100, vm.End{Used: 4, Trap: api.TDone, At: 6}}, {"1=3 13=1 14=5 18=1", 5, 3, vm.End{Used: 3, Trap: api.TBudget, At: 3}}, {"14=5 18=1", 5, 3, vm.End{Used: 3, Trap: api.TBudget, At: 6}},
	} {
		s := holds(t, m, x, with(len(laid), c.cells), c.now, c.budget)
		if s.Used != c.want.Used || s.Trap != c.want.Trap || s.At != c.want.At {
			t.Errorf("%s at %d, %d: %v", c.cells, c.now, c.budget, s.End)
		}
	}
}

package vm_test

import (
	"slices"
	"testing"

	"capstan/api"
	"capstan/gen"
	"capstan/vm"
)

// What README.md shows of the package.
func TestReadme(t *testing.T) {
	x, _, _ := gen.Compile("program p var n : int := 5; end_var n := 100 / n - 1; end_program")
	m, at, e := vm.New(x)
	if at != 0 || e != api.OK || !slices.Equal(m.First(), []int64{5}) {
		t.Fatal(at, e)
	}
	end, e := m.Scan(m.First(), 0, 100)
	if e != api.OK || !slices.Equal(end.Cells, []int64{19}) || end.Used != 7 || end.Trap != api.TDone || end.At != 6 {
		t.Error(end, e)
	}
	end, e = m.Scan(end.Cells, 10, 4)
	if e != api.OK || !slices.Equal(end.Cells, []int64{19}) || end.Used != 4 || end.Trap != api.TBudget || end.At != 4 {
		t.Error(end, e)
	}
	l, e := m.Trace([]int64{0}, 20, 100)
	if e != api.OK || !slices.Equal(l, []int{0, 1, 2}) {
		t.Error(l, e)
	}
	end, e = m.Scan([]int64{0}, 20, 100)
	if e != api.OK || end.Trap != api.TZero || end.At != 2 {
		t.Error(end, e)
	}
	if end, e = m.Scan(nil, 20, 100); e != api.ErrShape || end.Used != 0 || end.Cells != nil {
		t.Error(end, e)
	}
}

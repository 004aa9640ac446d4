package mean_test

import (
	"slices"
	"testing"

	"capstan/api"
	"capstan/decl"
	"capstan/expr"
	"capstan/lex"
	"capstan/mean"
)

// What README.md shows of the package.
func TestReadme(t *testing.T) {
	p, _ := decl.Parse("program p var n : int; end_var n := n + 1; end_program")
	end, at, e := mean.Scan(p, []int64{7}, 0, 100)
	if !slices.Equal(end.Cells, []int64{8}) || end.Used != 5 || end.Trap != api.TDone || at != 0 || e != api.OK {
		t.Error(end, at, e)
	}
	end, at, e = mean.Scan(p, []int64{7}, 0, 3)
	if !slices.Equal(end.Cells, []int64{7}) || end.Used != 3 || end.Trap != api.TBudget || at != 0 || e != api.OK {
		t.Error(end, at, e)
	}
	end, at, e = mean.Scan(p, nil, 0, 3)
	if len(end.Cells) > 0 || end.Used != 0 || end.Trap != 0 || at != 0 || e != api.ErrShape {
		t.Error(end, at, e)
	}
	l, _ := lex.Tokens("100 / n")
	x, _, _ := expr.Parse(l, 0)
	n, trap, e := mean.Worth(p.Vars, []int64{7}, x, api.TInt)
	if n != 14 || trap != api.TDone || e != api.OK {
		t.Error(n, trap, e)
	}
	n, trap, e = mean.Worth(p.Vars, []int64{0}, x, api.TInt)
	if n != 0 || trap != api.TZero || e != api.OK {
		t.Error(n, trap, e)
	}
}

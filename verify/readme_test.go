package verify_test

import (
	"testing"

	"capstan/api"
	"capstan/gen"
	"capstan/verify"
)

// What README.md shows of the package.
func TestReadme(t *testing.T) {
	x, _, _ := gen.Compile("program p var n : int; end_var n := n + 1; return; n := 2; end_program")
	if at, e := verify.Check(x); at != 0 || e != api.OK {
		t.Error(at, e)
	}
	if n, e := verify.Deep(x); n != 2 || e != api.OK {
		t.Error(n, e)
	}
	if l, e := verify.Reached(x); shown(l) != "11111000" || e != api.OK {
		t.Error(shown(l), e)
	}
	x.Code[1] = api.Instr{Op: api.IPush, A: api.TBool, N: 1}
	if at, e := verify.Check(x); at != 2 || e != api.ErrStack {
		t.Error(at, e)
	}
	if n, e := verify.Deep(x); n != 0 || e != api.ErrStack {
		t.Error(n, e)
	}
}

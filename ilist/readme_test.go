package ilist_test

import (
	"testing"

	"capstan/api"
	"capstan/code"
	"capstan/ilist"
)

// What README.md shows of the package.
func TestReadme(t *testing.T) {
	head := "program p var n : int; end_var end_program"
	x, at, e := ilist.Assemble(head, "again: LD n ADD 1 ST n LD n LT 10 JMPC again")
	if s := code.Show(x.Code[2]); s != "TWO 1 2 0" || len(x.Code) != 10 || at != 0 || e != api.OK {
		t.Error(s, at, e)
	}
	if x, at, e = ilist.Assemble(head, "LD n LT 10 ST n"); !isNothing(x) || at != 11 || e != api.ErrType {
		t.Error(x, at, e)
	}
	if x, at, e = ilist.Assemble(head, "LD n ADD 1"); !isNothing(x) || at != 10 || e != api.ErrStmt {
		t.Error(x, at, e)
	}
	if x, at, e = ilist.Assemble("program p n := 1; end_program", ""); !isNothing(x) || at != -1 || e != api.ErrName {
		t.Error(x, at, e)
	}
}

package gen_test

import (
	"testing"

	"capstan/api"
	"capstan/code"
	"capstan/expr"
	"capstan/gen"
	"capstan/lex"
)

// What README.md shows of the package.
func TestReadme(t *testing.T) {
	x, at, e := gen.Compile("program p var n : int; end_var n := n + 1; end_program")
	if s := code.Show(x.Code[1]); s != "PUSH 2 0 1" || at != 0 || e != api.OK {
		t.Error(s, at, e)
	}
	if x, at, e = gen.Compile("program p n 1; end_program"); !isNothing(x) || at != 12 || e != api.ErrStmt {
		t.Error(x, at, e)
	}
	if x, at, e = gen.Compile("program p return; n := 1; end_program"); !isNothing(x) || at != 1 || e != api.ErrName {
		t.Error(x, at, e)
	}
	l, _ := lex.Tokens("n + 2 * 3")
	y, _, _ := expr.Parse(l, 0)
	if c, e := gen.Expr([]api.Var{{Name: "N", Type: api.TInt}}, y, api.TInt); text(c) != "LOAD 0; PUSH INT 6; TWO + INT" || e != api.OK {
		t.Error(text(c), e)
	}
}

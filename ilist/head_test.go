package ilist_test

import (
	"fmt"
	"strings"
	"testing"

	"capstan/api"
)

// badHead is a head that is refused.
type badHead struct {
	head string
	e    api.Errno
}

var badHeads = []badHead{
	// chapter 5
	{"#", api.ErrToken}, {"program p (* end_program", api.ErrToken}, {"program p end_program #", api.ErrToken}, {"program abcdefghijklmnopqrstuvwxy end_program", api.ErrToken}, {"program p var n : int := int#40000; end_var end_program", api.ErrToken},
	{strings.Repeat(" ", api.MaxBytes+1), api.ErrLong}, {"program p " + strings.Repeat("; ", api.MaxTokens), api.ErrLong},
	// chapters 6 to 8
	{"", api.ErrDecl}, {" ", api.ErrDecl}, {"p", api.ErrDecl}, {"program", api.ErrDecl}, {"program p", api.ErrDecl}, {"program 5 end_program", api.ErrDecl}, {"program if end_program", api.ErrDecl}, {"program p end_program 5", api.ErrDecl}, {"program p end_program LD", api.ErrDecl},
	{"program p var n int; end_var end_program", api.ErrDecl}, {"program p var n : int end_var end_program", api.ErrDecl}, {"program p var n : int; end_program", api.ErrDecl}, {"program p var n : int := 40000; end_var end_program", api.ErrDecl}, {"program p var retain n : int; end_var end_program", api.ErrDecl}, {"program p var_retain n : int; end_var end_program", api.ErrStmt},
	{"program p var_input t : ton; end_var end_program", api.ErrDecl}, {"program p var_output x : array[0..3] of int; end_var end_program", api.ErrDecl}, {"program p var x : array[0..32] of int; end_var end_program", api.ErrDecl}, {"program p var ld : ld; end_var end_program", api.ErrDecl},
	{"program p LD n end_program", api.ErrStmt}, {"program p n := ; end_program", api.ErrExpr}, {"program p if b then end_program", api.ErrStmt}, {"program p n := 5 end_program", api.ErrStmt},
	{"program p var " + many(65) + "end_var end_program", api.ErrLong},
	// chapter 9
	{"program p var n : int; n : int; end_var end_program", api.ErrName}, {"program p var p : int; end_var end_program", api.ErrName}, {"program p var_input n : int; end_var var N : bool; end_var end_program", api.ErrName},
	{"program p n := 5; end_program", api.ErrName}, {"program p var n : int; end_var n := 40000; end_program", api.ErrRange}, {"program p var n : int; end_var n := true; end_program", api.ErrType}, {"program p exit; end_program", api.ErrKind}, {"program p var_input n : int; end_var n := 5; end_program", api.ErrKind},
	{"program p var " + arrays(33) + "end_var end_program", api.ErrLong},
	// statements, though right
	{"program p return; end_program", api.ErrStmt}, {"program p var n : int; end_var n := n + 1; end_program", api.ErrStmt}, {"program p var t : ton; end_var t(); end_program", api.ErrStmt}, {"program p var b : bool; end_var if b then end_if; end_program", api.ErrStmt}, {"program p return; return; end_program", api.ErrStmt},
	// chapter 9 ahead of statements
	{"program p return; n := 5; end_program", api.ErrName}, {"program p var n : int; n : int; end_var return; end_program", api.ErrName}, {"program p var " + arrays(33) + "end_var return; end_program", api.ErrLong},
}

// many answers so many variables of one cell each.
func many(n int) string {
	var b strings.Builder
	for k := range n {
		fmt.Fprintf(&b, "v%d : int; ", k)
	}
	return b.String()
}

// arrays answers so many variables of 32 cells each.
func arrays(n int) string {
	var b strings.Builder
	for k := range n {
		fmt.Fprintf(&b, "a%d : array[0..31] of int; ", k)
	}
	return b.String()
}

// 18.1: what is refused of a head is told at -1, whatever the lines are
func TestHeadsRefused(t *testing.T) {
	for _, c := range badHeads {
		for _, lines := range []string{"", "RET", "LD n ST n", "LD nobody", "foo", "#", "LD 5", strings.Repeat(" ", api.MaxBytes+1)} {
			refusesOf(t, c.head, lines, -1, c.e)
		}
	}
}

// 18.1: heads with sections of any order, or none
func TestHeadsThatMayBe(t *testing.T) {
	for head, want := range map[string]string{
		"program p end_program": "END", "PROGRAM ld END_PROGRAM": "END", "program p var end_var end_program": "END", "(* *) program p var_input end_var var_output end_var // \n end_program {}": "END",
	} {
		if got := text(made(t, head, "").Code); got != want {
			t.Errorf("%s: %s", head, got)
		}
	}
	refusesOf(t, "program p end_program", "LD p", 0, api.ErrName)
	refusesOf(t, "program p end_program", "LD n ST n", 0, api.ErrName)
}

package stmt_test

import (
	"math"
	"slices"
	"testing"

	"capstan/api"
	"capstan/lex"
	"capstan/stmt"
)

// shows fails the test unless the statement is shown as the tokens of the text, each of which has just what its kind has.
func shows(t *testing.T, s []api.Stmt, text string) {
	t.Helper()
	want := tokens(text)
	for i := range want {
		want[i].At = 0
	}
	l, e := stmt.Tokens(s)
	if e != api.OK || !slices.Equal(l, want) {
		t.Errorf("Tokens(%v) = %v, %d, want %v", s, l, e, want)
	}
	readsOf(t, l, 0, s, len(l))
}

// 7.2, 7.3: each kind
func TestTokensOfEachKind(t *testing.T) {
	a := variable("A")
	shows(t, nil, "")
	shows(t, list(set("A", 1)), "a := 1 ;")
	shows(t, list(api.Stmt{Kind: api.SSet, Name: "A", Index: []api.Part{{Kind: api.PVar, S: "A"}, {Kind: api.PNum, N: 1, T: api.TInt}, {Kind: api.POp, N: api.NAnd}, {Kind: api.POp, N: api.NNot}}, X: []api.Part{{Kind: api.PNum, N: 1, T: api.TBool}}}), "a [ not ( a and int#1 ) ] := true ;")
	shows(t, list(full()...)[1:], "a [ i ] := 1 ; if a then exit ; else exit ; a := 1 ; end_if ; while a do exit ; end_while ; repeat exit ; until a end_repeat ; for i := 1 to 2 do exit ; end_for ; case a of 1 , - 1 : exit ; 0 : else exit ; end_case ; t ( in := 1 ) ; exit ; return ;")
	shows(t, list(one()...)[1:], "a := 1 ; if a then end_if ; while a do end_while ; repeat until a end_repeat ; for i := 1 to 2 do end_for ; case a of end_case ; t ( ) ; exit ; return ;")
	shows(t, list(elsif(nil), elsif(list(elsif(list(elsif(nil)))))), "if a then end_if ; if a then elsif a then elsif a then end_if ;")
	shows(t, list(elsif(list(elsif(list(exit))))), "if a then elsif a then else exit ; end_if ;")
	shows(t, list(elsif(list(elsif(nil), elsif(nil)))), "if a then else if a then end_if ; if a then end_if ; end_if ;")
	shows(t, list(elsif(list(exit, elsif(nil)))), "if a then else exit ; if a then end_if ; end_if ;")
	shows(t, list(api.Stmt{Kind: api.SCase, X: a, Else: list(elsif(nil))}), "case a of else if a then end_if ; end_case ;")
	shows(t, list(api.Stmt{Kind: api.SCall, Name: "T", Args: []api.Arg{{Name: "IF", X: a}, {Name: "END_IF", X: num(5)}, {Name: "IF", X: a}}}), "t ( if := a , end_if := 5 , if := a ) ;")
}

// 7.2, 7.3: numbers
func TestTokensOfNumbers(t *testing.T) {
	for n, text := range map[int64]string{1: "", 2: "by 2", -1: "by - 1", -2: "by - 2", math.MaxInt32: "by 2147483647", math.MinInt32: "by - 2147483648"} {
		s := one()[api.SFor]
		s.By = n
		shows(t, list(s), "for i := 1 to 2 "+text+" do end_for ;")
	}
	s := one()[api.SCase]
	s.Arms = []api.Arm{{Labels: []int64{0, 1, -1, math.MaxInt32, math.MinInt32}}, {Labels: []int64{-5}, Body: list(exit)}}
	shows(t, list(s), "case a of 0 , 1 , - 1 , 2147483647 , - 2147483648 : - 5 : exit ; end_case ;")
	l, _ := stmt.Tokens(list(s))
	if text, e := lex.Show(append(l, api.Token{Kind: api.KEnd})); e != api.OK || text != "CASE A OF 0 , 1 , - 1 , 2147483647 , - 2147483648 : - 5 : EXIT ; END_CASE ;" {
		t.Errorf("%q, %d", text, e)
	}
}

// 7.2, 7.3: as many and as deep as may be
func TestTokensOfTheGreatest(t *testing.T) {
	args := api.Stmt{Kind: api.SCall, Name: "T", Args: slices.Repeat([]api.Arg{{Name: "IN", X: num(1)}}, 8)}
	arms := api.Stmt{Kind: api.SCase, X: num(1), Arms: slices.Repeat([]api.Arm{{Labels: make([]int64, 16), Body: list(args)}}, 32)}
	for _, s := range [][]api.Stmt{slices.Repeat(list(arms), 12), slices.Repeat(list(args), 400), nest(20, holders["CASE"]), nest(400, elsif), slices.Repeat(nest(20, holders["REPEAT"]), 20)} {
		l, e := stmt.Tokens(s)
		if e != api.OK || plain(l) != refText(s) {
			t.Errorf("Tokens = %.300s, %d", plain(l), e)
		}
		readsOf(t, l, 0, s, len(l))
	}
}

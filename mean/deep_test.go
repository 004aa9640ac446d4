package mean_test

import (
	"fmt"
	"strings"
	"testing"

	"capstan/api"
	"capstan/typed"
)

// nested answers statements within others, so often.
func nested(ahead, inner, behind string, times int) string {
	return strings.Repeat(ahead, times) + inner + strings.Repeat(behind, times)
}

// 17.1: statements nested as deep as may be, written out
func TestDeepWrittenOut(t *testing.T) {
	turns := "2 n=1, 116 on=5"
	for k := range 19 {
		turns += fmt.Sprintf(", %d n=%d", 120+9*k, 2+k)
	}
	all(t, []goes{
		{body: nested("if b then ", "n := 1;", " end_if;", 19), cells: "b=1", trail: "40 n=1, 41 done"},
		{body: nested("if b then ", "n := 1;", " end_if;", 19), trail: "3 done"},
		{body: nested("if b then ", "n := 1;", " else on := 1; end_if;", 19), cells: "b=1", trail: "40 n=1, 60 done"},
		{body: nested("if b then else b := b; ", "n := 1;", " end_if;", 19), trail: "78 n=1, 79 done"},
		{body: nested("while b do ", "b := false;", " end_while;", 19), cells: "b=1", trail: "40 b=0, 98 done"},
		{body: nested("repeat ", "b := true;", " until b end_repeat;", 19), trail: "2 b=1, 41 done"},
		{body: nested("for n := 1 to 1 do ", "on := 5;", " end_for;", 19), trail: turns + ", 288 done"},
		{body: nested("case n of 0: ", "on := 5;", " end_case;", 19), trail: "97 on=5, 117 done"},
		{body: nested("case n of 1: else ", "on := 5;", " end_case;", 19), trail: "97 on=5, 98 done"},
		{body: "while true do " + nested("if b then ", "exit;", " else n := 7; end_if;", 18) + " n := 3; end_while; n := 1;", cells: "b=1", trail: "41 n=1, 42 done"},
		{body: "while true do " + nested("case n of 0: ", "exit;", " else n := 7; end_case;", 18) + " n := 3; end_while; n := 1;", trail: "95 n=1, 96 done"},
		{body: nested("while b do ", "exit;", " b := false; end_while;", 19) + " n := 1;", cells: "b=1", trail: "41 b=0, 131 n=1, 132 done"},
		{body: nested("repeat ", "exit;", " until b end_repeat;", 19), cells: "b=1", trail: "38 done"},
		{body: nested("repeat if b then ", "return;", " end_if; n := 1; until true end_repeat;", 9) + " n := 2;", cells: "b=1", trail: "19 done"},
		{body: nested("for n := 1 to 2 do ", "return;", " end_for;", 19) + " n := 9;", trail: "2 n=1, 115 done"},
		{body: nested("case n of 0: while true do ", "x[4] := 1;", " end_while; end_case;", 9) + " n := 9;", trail: "66 index"},
	})
}

// wraps are statements around one, of each kind that has some within.
func wraps() []func(s api.Stmt) api.Stmt {
	b, n := parts("b"), parts("n")
	set := api.Stmt{Kind: api.SSet, Name: "N", X: parts("n + 1")}
	flip := api.Stmt{Kind: api.SSet, Name: "B", X: parts("not b")}
	return []func(s api.Stmt) api.Stmt{
		func(s api.Stmt) api.Stmt { return api.Stmt{Kind: api.SIf, X: b, Body: []api.Stmt{s}} },
		func(s api.Stmt) api.Stmt {
			return api.Stmt{Kind: api.SIf, X: b, Body: []api.Stmt{set}, Else: []api.Stmt{s, set}}
		},
		func(s api.Stmt) api.Stmt {
			return api.Stmt{Kind: api.SIf, X: b, Body: []api.Stmt{s, flip}, Else: []api.Stmt{flip, s}}
		},
		func(s api.Stmt) api.Stmt { return api.Stmt{Kind: api.SWhile, X: b, Body: []api.Stmt{s}} },
		func(s api.Stmt) api.Stmt {
			return api.Stmt{Kind: api.SRepeat, X: b, Body: []api.Stmt{set, s, flip}}
		},
		func(s api.Stmt) api.Stmt {
			return api.Stmt{Kind: api.SFor, Name: "N", X: parts("2"), Y: parts("1"), By: -1, Body: []api.Stmt{s}}
		},
		func(s api.Stmt) api.Stmt {
			return api.Stmt{Kind: api.SCase, X: n, Arms: []api.Arm{{Labels: []int64{1}, Body: []api.Stmt{set}}, {Labels: []int64{2, 0}, Body: []api.Stmt{s}}}}
		},
		func(s api.Stmt) api.Stmt { return api.Stmt{Kind: api.SCase, X: n, Else: []api.Stmt{s}} },
	}
}

// 17.1, 17.3: statements within statements as deep as may be, each kind in itself, and all in turn
func TestDeep(t *testing.T) {
	kinds := wraps()
	right := 0
	for first := range kinds {
		for _, step := range []int{0, 1, 3} {
			for n, inner := range []api.Stmt{{Kind: api.SReturn}, {Kind: api.SExit}, {Kind: api.SSet, Name: "X", Index: parts("n"), X: parts("n")}} {
				s := inner
				for depth := range 19 {
					if depth == 5 && first == 2 { // twice the statements at each depth would be too many
						kinds[2] = kinds[0]
					}
					s = kinds[(first+depth*step)%len(kinds)](s)
				}
				kinds = wraps()
				if deep(t, s, n) {
					right++
				}
				if t.Failed() {
					return
				}
			}
		}
	}
	if right < 50 {
		t.Error(right)
	}
}

// deep fails the test unless a program of the statement, within others as deep as may be, ends as it must; and unless it may not be any deeper. It answers whether it is right.
func deep(t *testing.T, s api.Stmt, n int) bool {
	t.Helper()
	p := api.Program{Name: "P", Vars: vars, Body: []api.Stmt{s}}
	if at, e := typed.Check(p); e != api.OK { // an EXIT outside of all loops, or too many statements
		refuses(t, p, cellsOf(""), 0, 100, at, e)
		return false
	}
	m := machineOf(t, p)
	follows(t, p, cellsOf("n=2 b=1"), 0, 70)
	for _, cells := range []string{"", "b=1", "n=2 b=1", "n=1"} {
		for _, budget := range []int{100, 300, 5000} {
			agrees(t, p, m, cellsOf(cells), int64(n), budget)
		}
	}
	p.Body = []api.Stmt{wraps()[n](s)}
	refuses(t, p, cellsOf(""), 0, 100, 0, api.ErrDecl)
	return true
}

// 17.1: expressions as deep as may be, and as long
func TestDeepExpressions(t *testing.T) {
	all(t, []goes{
		{body: "n := x[" + nested("x[", "on", "]", 21) + "];", cells: "on=1 x[1]=1", trail: "24 n=1, 25 done"},
		{body: "n := x[" + nested("x[", "on", "]", 21) + "];", cells: "on=1 x[1]=2 x[2]=3 x[3]=4", trail: "5 index"},
		{body: "n := " + nested("-(", "n", ")", 23) + ";", cells: "n=5", trail: "25 n=-5, 26 done"},
		{body: "x[" + nested("-(", "n", ")", 22) + "] := " + nested("1 + (", "on", ")", 22) + ";", cells: "n=3 on=1", trail: "69 x[3]=23, 70 done"},
		{body: "n := " + nested("7 - (", "on", ")", 23) + ";", cells: "on=-1", trail: "48 n=8, 49 done"},
	})
	sum := append(balanced(250, api.NAdd, variable("ON")), op(api.NNeg))
	p := api.Program{Name: "P", Vars: vars, Body: []api.Stmt{{Kind: api.SSet, Name: "N", X: sum}}}
	for budget := 495; budget < 505; budget++ {
		want := trailOf("501 n=-750, 502 done").end(cellsOf("on=3"), budget)
		ends(t, p, cellsOf("on=3"), 0, budget, want)
	}
}

// balanced answers 2*n - 1 parts, no deeper than they need be.
func balanced(n int, o int64, leaf api.Part) []api.Part {
	if n == 1 {
		return []api.Part{leaf}
	}
	return append(append(balanced(n/2, o, leaf), balanced(n-n/2, o, leaf)...), op(o))
}

// 17.1: a chain of as many statements as there may be: the last one is done, or the first one
func TestLongChain(t *testing.T) {
	chain := "if b then" + strings.Repeat(" elsif b then", 398)
	for last, text := range map[string]string{
		" else n := 1; end_if;":     "800 n=1, 801 done",
		" elsif b then end_if;":     "801 done",
		" elsif not b then end_if;": "802 done",
		" else return; end_if;":     "799 done",
		" else n := 7 / 0; end_if;": "801 zero",
	} {
		p, r := program(chain+last), trailOf(text)
		for _, budget := range []int{0, 1, 2, 3, 797, 798, r.last - 2, r.last - 1, r.last, r.last + 1} {
			ends(t, p, cellsOf(""), 0, budget, r.end(cellsOf(""), budget))
		}
		r = trailOf("4 done")
		for budget := range 6 {
			ends(t, p, cellsOf("b=1"), 0, budget, r.end(cellsOf("b=1"), budget))
		}
	}
}

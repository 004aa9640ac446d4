package mean_test

import "testing"

// 17.1: SWhile of no turn, one and many, and one without an end
func TestWhile(t *testing.T) {
	const count = "while n < 3 do n := n + 1; end_while;"
	all(t, []goes{
		{body: count, cells: "n=3", trail: "5 done"},
		{body: count, cells: "n=2", trail: "8 n=3, 14 done"},
		{body: count, trail: "8 n=1, 17 n=2, 26 n=3, 32 done"},
		{body: "while b do end_while; n := 1;", trail: "4 n=1, 5 done"},
		{body: "while b do end_while; n := 1;", cells: "b=1", trail: "90 on"},
		{body: "while true do n := n + 1; end_while;", trail: "6 n=1, 13 n=2, 20 n=3, 27 n=4, 30 on"},
		{body: "while not b do b := true; n := 5; end_while; n := n + 1;", trail: "5 b=1, 7 n=5, 15 n=6, 16 done"},
		{body: "while n > 0 do on := n; while on > 0 do d := d + 1; on := on - 1; end_while; n := n - 1; end_while;", cells: "n=2", trail: "6 on=2, 14 d=1, 18 on=1, 27 d=2, 31 on=0, 40 n=1, 47 on=1, 55 d=3, 59 on=0, 68 n=0, 74 done"},
	})
}

// 17.1: SRepeat of one turn and many, and one without an end
func TestRepeat(t *testing.T) {
	const count = "repeat n := n + 1; until n >= 3 end_repeat;"
	all(t, []goes{
		{body: count, cells: "n=5", trail: "4 n=6, 9 done"},
		{body: count, cells: "n=2", trail: "4 n=3, 9 done"},
		{body: count, trail: "4 n=1, 12 n=2, 20 n=3, 25 done"},
		{body: "repeat until b end_repeat;", cells: "b=1", trail: "3 done"},
		{body: "repeat until b end_repeat;", trail: "70 on"},
		{body: "repeat n := 1; b := not b; until not b end_repeat; n := 2;", trail: "2 n=1, 5 b=1, 13 b=0, 18 n=2, 19 done"},
		{body: "repeat repeat n := n + 1; until n mod 2 = 0 end_repeat; d := d + 1; until n = 4 end_repeat;", trail: "4 n=1, 14 n=2, 24 d=1, 32 n=3, 42 n=4, 52 d=2, 57 done"},
	})
}

// 17.1: SFor up and down, of no turn, one and many
func TestFor(t *testing.T) {
	all(t, []goes{
		{body: "for n := 1 to 3 do d := d + 1; end_for;", trail: "2 n=1, 10 d=1, 14 n=2, 23 d=2, 27 n=3, 36 d=3, 40 n=4, 46 done"},
		{body: "for n := 3 to 1 by -1 do end_for;", trail: "2 n=3, 10 n=2, 19 n=1, 28 n=0, 34 done"},
		{body: "for n := 5 to 4 do d := 1; end_for;", trail: "2 n=5, 7 done"},
		{body: "for n := 4 to 5 by -1 do d := 1; end_for;", trail: "2 n=4, 7 done"},
		{body: "for n := 4 to 4 do end_for;", trail: "2 n=4, 10 n=5, 16 done"},
		{body: "for n := 4 to 4 by -1 do end_for; n := 9;", trail: "2 n=4, 10 n=3, 17 n=9, 18 done"},
		{body: "for n := 0 to 7 by 5 do end_for;", trail: "2 n=0, 10 n=5, 19 n=10, 25 done"},
		{body: "for n := 7 to 0 by -7 do end_for;", trail: "2 n=7, 10 n=0, 19 n=-7, 25 done"},
		{body: "for d := 70000 to 70001 do end_for;", trail: "2 d=70000, 10 d=70001, 19 d=70002, 25 done"},
		{body: "for n := n + 1 to on * 2 do x[n] := n; end_for;", cells: "on=1", trail: "4 n=1, 13 x[1]=1, 17 n=2, 27 x[2]=2, 31 n=3, 39 done"},
		{body: "for n := 1 to 2 do for on := n to 2 do d := d + 1; end_for; end_for;", trail: "2 n=1, 8 on=1, 16 d=1, 20 on=2, 29 d=2, 33 on=3, 42 n=2, 49 on=2, 57 d=3, 61 on=3, 70 n=3, 76 done"},
	})
}

// 17.1: SFor with By of more than 1, of the least and the greatest numbers, where the variable wraps
func TestForWraps(t *testing.T) {
	all(t, []goes{
		{body: "for n := 32766 to 32767 do end_for;", trail: "2 n=32766, 10 n=32767, 19 n=-32768, 28 n=-32767, 36 on"},
		{body: "for n := -32767 to int#-32768 by -1 do end_for;", trail: "2 n=-32767, 10 n=-32768, 19 n=32767, 28 n=32766, 36 on"},
		{body: "for n := 1 to 5 by 32767 do end_for;", trail: "2 n=1, 10 n=-32768, 19 n=-1, 28 n=32766, 34 done"},
		{body: "for n := 0 to -1 by -32768 do end_for;", trail: "2 n=0, 10 n=-32768, 16 done"},
		{body: "for n := -1 to -5 by -32768 do end_for;", trail: "2 n=-1, 10 n=32767, 19 n=-1, 28 n=32767, 36 on"},
		{body: "for d := 2147483646 to 2147483647 do end_for;", trail: "2 d=2147483646, 10 d=2147483647, 19 d=-2147483648, 28 d=-2147483647, 36 on"},
		{body: "for d := 2 to 3 by 2147483647 do end_for;", trail: "2 d=2, 10 d=-2147483647, 19 d=0, 28 d=2147483647, 34 done"},
		{body: "for d := 0 to 0 by -2147483648 do end_for;", trail: "2 d=0, 10 d=-2147483648, 16 done"},
		{body: "for d := -1 to -5 by -2147483648 do end_for;", trail: "2 d=-1, 10 d=2147483647, 19 d=-1, 28 d=2147483647, 36 on"},
		{body: "for n := int#-32768 to 32767 by 32767 do end_for;", trail: "2 n=-32768, 10 n=-1, 19 n=32766, 28 n=-3, 37 n=32764, 45 on"},
	})
}

// 17.1: SFor with bounds that the body changes, and with a variable that it changes
func TestForChanged(t *testing.T) {
	all(t, []goes{
		{body: "for n := 1 to on do on := on - 1; end_for;", cells: "on=3", trail: "2 n=1, 10 on=2, 14 n=2, 23 on=1, 27 n=3, 33 done"},
		{body: "for n := on to on + 1 do on := n; end_for;", cells: "on=5", trail: "2 n=5, 14 n=6, 23 on=6, 27 n=7, 36 on=7, 40 n=8, 49 on=8, 50 on"},
		{body: "for n := 1 to 9 do n := n + 3; end_for;", trail: "2 n=1, 10 n=4, 14 n=5, 23 n=8, 27 n=9, 36 n=12, 40 n=13, 46 done"},
		{body: "for n := 3 to 1 by -1 do n := 2; end_for;", trail: "2 n=3, 8 n=2, 12 n=1, 19 n=2, 23 n=1, 30 n=2, 32 on"},
		{body: "for n := 1 to x[n] do x[n] := 0; end_for;", cells: "x[1]=2 x[2]=2", trail: "2 n=1, 10 x[1]=0, 14 n=2, 23 x[2]=0, 27 n=3, 34 done"},
		{body: "for n := 0 to 1 do b := not b; if b then n := -1; end_if; end_for;", trail: "2 n=0, 9 b=1, 13 n=-1, 17 n=0, 25 b=0, 31 n=1, 39 b=1, 43 n=-1, 46 on"},
	})
}

// 17.1: SExit out of the innermost of two loops, within SIf and SCase, of loops of each kind
func TestExit(t *testing.T) {
	all(t, []goes{
		{body: "while true do exit; end_while; n := 1;", trail: "5 n=1, 6 done"},
		{body: "while true do n := 1; exit; n := 2; end_while; n := 3;", trail: "4 n=1, 7 n=3, 8 done"},
		{body: "repeat exit; until 7 / 0 = 1 end_repeat; n := 1;", trail: "3 n=1, 4 done"},
		{body: "for n := 1 to 9 do exit; end_for; on := 1;", trail: "2 n=1, 9 on=1, 10 done"},
		{body: "while n < 2 do n := n + 1; while true do d := d + 1; exit; end_while; end_while;", trail: "8 n=1, 14 d=1, 24 n=2, 30 d=2, 37 done"},
		{body: "for n := 1 to 2 do repeat d := d + 1; exit; until false end_repeat; end_for;", trail: "2 n=1, 10 d=1, 15 n=2, 24 d=2, 29 n=3, 35 done"},
		{body: "repeat n := n + 1; for on := 1 to 9 do exit; end_for; until n = 2 end_repeat;", trail: "4 n=1, 6 on=1, 19 n=2, 21 on=1, 31 done"},
		{body: "repeat n := n + 1; if n = 2 then exit; else d := 7; end_if; until false end_repeat;", trail: "4 n=1, 10 d=7, 16 n=2, 22 done"},
		{body: "while true do if b then n := 1; else exit; end_if; n := 2; end_while; n := 3;", trail: "7 n=3, 8 done"},
		{body: "while true do if i then elsif b then exit; end_if; n := 2; end_while; n := 3;", cells: "b=1", trail: "9 n=3, 10 done"},
		{body: "while true do while true do exit; end_while; n := 1; exit; end_while; n := 2;", trail: "7 n=1, 10 n=2, 11 done"},
		{body: "for n := 1 to 9 do case n of 2: exit; else d := d + 1; end_case; end_for;", trail: "2 n=1, 15 d=1, 19 n=2, 31 done"},
		{body: "for n := 1 to 9 do case n of 1, 2: d := d + 1; else exit; end_case; end_for;", trail: "2 n=1, 15 d=1, 20 n=2, 38 d=2, 43 n=3, 59 done"},
		{body: "while true do case n of 0: if b then exit; end_if; b := true; end_case; end_while; n := 1;", trail: "11 b=1, 25 n=1, 26 done"},
	})
}

// 17.1: SReturn in the midst, within SIf, SCase and loops
func TestReturn(t *testing.T) {
	all(t, []goes{
		{body: "return;", trail: "1 done"},
		{body: "return; n := 1;", trail: "1 done"},
		{body: "n := 1; return; n := 2;", trail: "2 n=1, 3 done"},
		{body: "if b then return; end_if; n := 1;", cells: "b=1", trail: "3 done"},
		{body: "if b then return; end_if; n := 1;", trail: "4 n=1, 5 done"},
		{body: "if b then n := 1; else return; end_if; n := 2;", trail: "3 done"},
		{body: "while true do n := n + 1; if n = 2 then return; end_if; end_while; n := 9;", trail: "6 n=1, 17 n=2, 22 done"},
		{body: "repeat return; until true end_repeat;", trail: "1 done"},
		{body: "for n := 1 to 3 do while true do return; end_while; end_for;", trail: "2 n=1, 9 done"},
		{body: "case n of 0: return; else n := 1; end_case; n := 2;", trail: "6 done"},
		{body: "case n of 1: n := 1; else return; end_case; n := 2;", trail: "6 done"},
	})
}

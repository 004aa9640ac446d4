package mean_test

import (
	"fmt"
	"testing"

	"capstan/api"
)

// 17.1: indexes of 0, of Len - 1, of Len, of -1 and others, of TInt and TDint, in arrays of each type, in an expression and in what is set
func TestIndexes(t *testing.T) {
	for _, array := range []struct {
		name, of string // what its values are set to
		many     int64
		value    int64
	}{{"xb", "b", 2, 1}, {"x", "on", 4, -7}, {"xd", "id", 1, 70000}, {"xt", "e", 32, 5}} {
		for _, by := range []string{"in1", "d"} {
			for _, i := range []int64{0, 1, array.many - 1, array.many, array.many + 1, -1, -2, -array.many, 31, 32, 33, 32767, -32768, 65536, -65536, 2147483647, -2147483648} {
				if by == "in1" && !fits(api.TInt, i) {
					continue
				}
				element := fmt.Sprintf("%s[%d]=%d", array.name, i, array.value)
				read := goes{body: fmt.Sprintf("%s := %s[%s];", array.of, array.name, by), cells: fmt.Sprintf("%s=%d", by, i), trail: "2 index"}
				set := goes{body: fmt.Sprintf("%s[%s] := %s;", array.name, by, array.of), cells: fmt.Sprintf("%s=%d %s=%d", by, i, array.of, array.value), trail: "3 index"}
				if i >= 0 && i < array.many {
					read.cells += " " + element
					read.trail = fmt.Sprintf("3 %s=%d, 4 done", array.of, array.value)
					set.trail = fmt.Sprintf("3 %s, 4 done", element)
				}
				if array.of == "id" { // an input is not set
					read.body = fmt.Sprintf("q(a := %s[%s] = 70000);", array.name, by)
					if read.trail != "2 index" {
						read.trail = "5 q.a=1, 6 q.last=2, 7 done"
					}
				}
				all(t, []goes{read, set})
			}
		}
	}
}

// 17.1: indexes that are none, with what had been done by then
func TestIndexInTheMidst(t *testing.T) {
	all(t, []goes{
		{body: "n := 1; on := x[n + 3] + 1; d := 5;", trail: "2 n=1, 6 index"},
		{body: "n := 1; on := x[n + 2] + 1; d := 5;", trail: "2 n=1, 9 on=1, 11 d=5, 12 done"},
		{body: "x[0] := 1; x[4] := 2; x[1] := 3;", trail: "3 x[0]=1, 6 index"},
		{body: "x[-1] := 1;", trail: "3 index"},
		{body: "n := x[-1];", trail: "2 index"},
		{body: "n := x[70000];", trail: "2 index"},
		{body: "x[70000] := 1;", trail: "3 index"},
		{body: "x[x[0]] := 1; x[x[0]] := 2;", trail: "4 x[0]=1, 8 x[1]=2, 9 done"},
		{body: "x[x[n]] := x[0];", cells: "n=1 x[1]=4", trail: "5 index"},
		{body: "x[x[n]] := x[0];", cells: "n=4", trail: "2 index"},
		{body: "n := x[x[x[n]]];", cells: "n=1 x[1]=2 x[2]=-1", trail: "4 index"},
		{body: "for n := 0 to 4 do x[n] := n + 5; end_for;", trail: "2 n=0, 11 x[0]=5, 15 n=1, 25 x[1]=6, 29 n=2, 39 x[2]=7, 43 n=3, 53 x[3]=8, 57 n=4, 67 index"},
	})
}

// 17.1: divisions and rests by 0 in each type that has them, with what had been done by then
func TestZero(t *testing.T) {
	all(t, []goes{
		{body: "n := 7 / n;", trail: "3 zero"},
		{body: "n := 7 mod n;", trail: "3 zero"},
		{body: "n := on / n;", cells: "on=-32768", trail: "3 zero"},
		{body: "d := 7 / d;", trail: "3 zero"},
		{body: "d := 70000 mod d;", trail: "3 zero"},
		{body: "d := id / d;", cells: "id=-2147483648", trail: "3 zero"},
		{body: "n := 0 / n;", trail: "3 zero"},
		{body: "n := 7 / 0;", trail: "3 zero"},
		{body: "d := 7 mod 0;", trail: "3 zero"},
		{body: "n := (3 + 4) / (2 - 2);", trail: "3 zero"},
		{body: "n := 1 + 7 / 0 * on;", trail: "4 zero"},
		{body: "n := 7 / n;", cells: "n=2", trail: "4 n=3, 5 done"},
		{body: "n := 7 / n; n := 7 / (n - 3);", cells: "n=2", trail: "4 n=3, 9 zero"},
		{body: "b := 7 / n > 1; on := 5;", trail: "3 zero"},
		{body: "d := to_dint(7 mod n);", trail: "3 zero"},
		{body: "e := to_time(d / d); n := 1;", trail: "3 zero"},
		{body: "n := 5; d := 70000; xb[0] := 7 / in1 = 0; on := 1;", trail: "2 n=5, 4 d=70000, 8 zero"},
	})
}

// 17.1: Index is reckoned ahead of X, and asked for behind both
func TestIndexAheadOfX(t *testing.T) {
	all(t, []goes{
		{body: "x[4] := 7 / 0;", trail: "4 zero"},
		{body: "x[7 / n] := x[9];", trail: "3 zero"},
		{body: "x[x[9]] := 7 / 0;", trail: "2 index"},
		{body: "x[n] := x[9];", cells: "n=4", trail: "3 index"},
		{body: "x[n] := x[on];", cells: "n=4 on=3", trail: "4 index"},
		{body: "x[n] := 7 / on;", cells: "n=4 on=7", trail: "5 index"},
		{body: "x[n + 1] := n + 2;", cells: "n=1", trail: "7 x[2]=3, 8 done"},
		{body: "x[0 / n] := x[x[4]];", trail: "3 zero"},
		{body: "x[x[4]] := x[0 / n];", trail: "2 index"},
	})
}

// 17.1: a trap in each place where a statement has an expression
func TestTrapsInStatements(t *testing.T) {
	all(t, []goes{
		{body: "if 7 / n = 1 then on := 1; else on := 2; end_if;", trail: "3 zero"},
		{body: "if b then elsif x[n] = 1 then on := 1; end_if;", cells: "n=-1", trail: "4 index"},
		{body: "while 6 / n > 1 do n := n - 3; end_while;", cells: "n=3", trail: "10 n=0, 14 zero"},
		{body: "repeat n := n - 1; until 6 / n > 5 end_repeat;", cells: "n=1", trail: "4 n=0, 7 zero"},
		{body: "for n := x[on] to 5 do d := 1; end_for;", cells: "on=4", trail: "2 index"},
		{body: "for n := 1 to x[n] do d := 1; end_for;", cells: "x[1]=5", trail: "2 n=1, 9 d=1, 13 n=2, 20 done"},
		{body: "for n := 2 to x[n] do d := d + 1; end_for;", cells: "x[2]=5 x[3]=5", trail: "2 n=2, 11 d=1, 15 n=3, 25 d=2, 29 n=4, 32 index"},
		{body: "for n := 1 to 5 do on := 6 / (3 - n); end_for;", trail: "2 n=1, 12 on=3, 16 n=2, 27 on=6, 31 n=3, 41 zero"},
		{body: "case 7 / n of 1: on := 1; 2: on := 2; end_case;", trail: "3 zero"},
		{body: "case 7 / n of 1: on := 1; 2: on := 2; else on := 7 / (n - 2); end_case;", cells: "n=2", trail: "19 zero"},
		{body: "t(in := true, pt := to_time(7 / n));", now: 5, trail: "2 t.in=1, 5 zero"},
		{body: "t(in := xb[n], pt := t#5ms);", cells: "n=2", trail: "2 index"},
		{body: "r(clk := true); while true do while b do end_while; if x[n] = 0 then n := n + 3; end_if; end_while;", trail: "2 r.clk=1, 3 r.q=1 r.m=1, 16 n=3, 22 on"},
		{body: "while true do repeat case x[n] of 0: n := n + 3; end_case; until false end_repeat; end_while;", trail: "12 n=3, 25 n=6, 30 index"},
	})
}

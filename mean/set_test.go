package mean_test

import "testing"

// 17.1: SSet of a variable, of each type; what its expression costs
func TestSet(t *testing.T) {
	all(t, []goes{
		{body: "", trail: "1 done"},
		{body: "n := 7;", trail: "2 n=7, 3 done"},
		{body: "n := n + 1;", cells: "n=7", trail: "4 n=8, 5 done"},
		{body: "n := n + 1;", cells: "n=32767", trail: "4 n=-32768, 5 done"},
		{body: "n := n;", cells: "n=7", trail: "3 done"},
		{body: "b := true; n := -5; d := 70000; e := t#5ms; o := b; on := n;", trail: "2 b=1, 4 n=-5, 6 d=70000, 8 e=5, 10 o=1, 12 on=-5, 13 done"},
		{body: "n := 1; n := 2; n := 3;", trail: "2 n=1, 4 n=2, 6 n=3, 7 done"},
		{body: "b := i; n := in1; d := id; e := it;", cells: "i=1 in1=3 id=-70000 it=9", trail: "2 b=1, 4 n=3, 6 d=-70000, 8 e=9, 9 done"},
		{body: "n := on * 2 - n;", cells: "on=5 n=3", trail: "6 n=7, 7 done"},
		{body: "n := on - (n - in1);", cells: "on=5 n=3 in1=7", trail: "6 n=9, 7 done"},
		{body: "n := 1 + 2 * 3; d := 32767 + 1; n := 32767 + 1;", trail: "2 n=7, 4 d=32768, 6 n=-32768, 7 done"},
		{body: "n := n + (1 + 2);", trail: "4 n=3, 5 done"},
		{body: "n := n + 1 + 2;", trail: "6 n=3, 7 done"},
		{body: "d := d * d;", cells: "d=100000", trail: "4 d=1410065408, 5 done"},
		{body: "e := e - t#1s;", cells: "e=-2147483648", trail: "4 e=2147482648, 5 done"},
		{body: "b := t.q; e := t.et; n := c.cv; d := q.cv;", cells: "t.q=1 t.et=5 c.cv=-6 q.cv=70000", trail: "2 b=1, 4 e=5, 6 n=-6, 8 d=70000, 9 done"},
	})
}

// 17.1: what expressions are worth, by each part: operations of each type, conversions, comparisons
func TestParts(t *testing.T) {
	all(t, []goes{
		{body: "n := - n;", cells: "n=5", trail: "3 n=-5, 4 done"},
		{body: "n := - n;", cells: "n=-32768", trail: "4 done"},
		{body: "d := - - d;", cells: "d=5", trail: "5 done"},
		{body: "b := not b; n := not n; d := not d;", cells: "n=5 d=-1", trail: "3 b=1, 6 n=-6, 9 d=0, 10 done"},
		{body: "b := not b;", cells: "b=1", trail: "3 b=0, 4 done"},
		{body: "n := n / on; d := d / id; n := in1 mod on;", cells: "n=-7 on=2 d=70000 id=-7 in1=-7", trail: "4 n=-3, 8 d=-10000, 12 n=-1, 13 done"},
		{body: "n := n / on;", cells: "n=-32768 on=-1", trail: "5 done"},
		{body: "d := d mod id;", cells: "d=-2147483648 id=-1", trail: "4 d=0, 5 done"},
		{body: "n := n and on; d := d or id;", cells: "n=12 on=10 d=12 id=10", trail: "4 n=8, 8 d=14, 9 done"},
		{body: "n := n xor on; b := b xor i;", cells: "n=12 on=10 b=1 i=1", trail: "4 n=6, 8 b=0, 9 done"},
		{body: "b := n < on; o := n >= on;", cells: "n=3 on=4 o=1", trail: "4 b=1, 8 o=0, 9 done"},
		{body: "b := n < on; o := n >= on;", cells: "n=4 on=4 b=1", trail: "4 b=0, 8 o=1, 9 done"},
		{body: "b := n > on; o := n <= on;", cells: "n=-4 on=4 b=1", trail: "4 b=0, 8 o=1, 9 done"},
		{body: "b := d = id; o := d <> id;", cells: "d=5 id=5 o=1", trail: "4 b=1, 8 o=0, 9 done"},
		{body: "b := not (n = on);", cells: "b=1 n=4 on=4", trail: "5 b=0, 6 done"},
		{body: "b := not (n = on); o := not (d < 5) xor (not (e >= it));", cells: "n=4 on=5 d=5 it=1", trail: "5 b=1, 16 done"},
		{body: "if not (n < 5) then n := 1; else n := 2; end_if;", cells: "n=5", trail: "7 n=1, 9 done"},
		{body: "b := e < it = i;", cells: "e=-1 it=0 i=1", trail: "6 b=1, 7 done"},
		{body: "b := b = i;", trail: "4 b=1, 5 done"},
		{body: "b := n < 5 and d < 70000 or not i;", cells: "n=4 d=70000", trail: "11 b=1, 12 done"},
		{body: "n := to_int(d); d := to_dint(n); e := to_time(n); n := to_int(n);", cells: "d=70000", trail: "3 n=4464, 6 d=4464, 9 e=4464, 13 done"},
		{body: "n := to_int(e); d := to_dint(e) + 1;", cells: "e=32768", trail: "3 n=-32768, 8 d=32769, 9 done"},
		{body: "d := to_dint(n * n) + to_dint(n) * to_dint(n);", cells: "n=256", trail: "11 d=65536, 12 done"},
		{body: "d := to_dint(n) * 2 - 1;", cells: "n=32767", trail: "7 d=65533, 8 done"},
	})
}

// 17.1: SSet of one of an array: Index, X, the set; the first one, the last one
func TestSetElement(t *testing.T) {
	all(t, []goes{
		{body: "x[n] := on + 1;", cells: "n=2 on=8", trail: "5 x[2]=9, 6 done"},
		{body: "x[1 + 2] := 4 * 2;", trail: "3 x[3]=8, 4 done"},
		{body: "x[0] := 1; x[3] := 2; xb[0] := true; xb[1] := true; xd[0] := 70000; xt[0] := t#1ms; xt[31] := t#2ms;", trail: "3 x[0]=1, 6 x[3]=2, 9 xb[0]=1, 12 xb[1]=1, 15 xd[0]=70000, 18 xt[0]=1, 21 xt[31]=2, 22 done"},
		{body: "x[d] := 5;", cells: "d=3", trail: "3 x[3]=5, 4 done"},
		{body: "x[d - 70000] := 5;", cells: "d=70001", trail: "5 x[1]=5, 6 done"},
		{body: "x[x[x[0]]] := x[x[0] - 1];", cells: "x[0]=1 x[1]=3", trail: "9 x[3]=1, 10 done"},
		{body: "n := x[on]; n := x[3]; d := xd[0]; b := xb[1];", cells: "on=1 x[1]=7 x[3]=-8 xd[0]=70000 xb[1]=1", trail: "3 n=7, 6 n=-8, 9 d=70000, 12 b=1, 13 done"},
		{body: "e := xt[n] + xt[d];", cells: "n=31 d=0 xt[31]=5 xt[0]=70000", trail: "6 e=70005, 7 done"},
		{body: "n := 1; x[n] := n; n := 2; x[n] := x[n - 1] + n;", trail: "2 n=1, 5 x[1]=1, 7 n=2, 15 x[2]=3, 16 done"},
		{body: "x[32768 - 32767] := 4;", trail: "3 x[1]=4, 4 done"},
	})
}

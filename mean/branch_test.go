package mean_test

import "testing"

// 17.1: SIf with and without an Else, nested, of ELSIFs
func TestIf(t *testing.T) {
	const plain = "if b then n := 1; end_if;"
	const other = "if b then n := 1; else n := 2; end_if;"
	const chain = "if b then n := 1; elsif i then n := 2; else n := 3; end_if; on := 4;"
	const short = "if b then n := 1; elsif i then n := 2; end_if; on := 4;"
	all(t, []goes{
		{body: plain, cells: "b=1", trail: "4 n=1, 5 done"},
		{body: plain, trail: "3 done"},
		{body: other, cells: "b=1", trail: "4 n=1, 6 done"},
		{body: other, trail: "4 n=2, 5 done"},
		{body: "if b then n := 1; else end_if;", cells: "b=1", trail: "4 n=1, 5 done"},
		{body: "if b then n := 1; else end_if;", trail: "3 done"},
		{body: "if b then else n := 2; end_if;", cells: "b=1", trail: "4 done"},
		{body: "if b then else n := 2; end_if;", trail: "4 n=2, 5 done"},
		{body: "if b then end_if;", cells: "b=1", trail: "3 done"},
		{body: "if b then end_if;", trail: "3 done"},
		{body: chain, cells: "b=1 i=1", trail: "4 n=1, 7 on=4, 8 done"},
		{body: chain, cells: "i=1", trail: "6 n=2, 9 on=4, 10 done"},
		{body: chain, trail: "6 n=3, 8 on=4, 9 done"},
		{body: short, cells: "b=1", trail: "4 n=1, 7 on=4, 8 done"},
		{body: short, cells: "i=1", trail: "6 n=2, 8 on=4, 9 done"},
		{body: short, trail: "6 on=4, 7 done"},
		{body: "if n > on and not b then n := on; end_if;", cells: "n=5 on=3", trail: "9 n=3, 10 done"},
		{body: "if n > on and not b then n := on; end_if;", cells: "n=3 on=3", trail: "8 done"},
		{body: "if true then n := 1; end_if; if 1 > 2 then n := 2; end_if;", trail: "4 n=1, 7 done"},
		{body: "if b then if i then n := 1; else n := 2; end_if; else n := 3; end_if;", cells: "b=1 i=1", trail: "6 n=1, 9 done"},
		{body: "if b then if i then n := 1; else n := 2; end_if; else n := 3; end_if;", cells: "b=1", trail: "6 n=2, 8 done"},
		{body: "if b then b := false; n := 1; else b := true; n := 2; end_if;", trail: "4 b=1, 6 n=2, 7 done"},
		{body: "if b then b := false; n := 1; else b := true; n := 2; end_if;", cells: "b=1", trail: "4 b=0, 6 n=1, 8 done"},
	})
}

// 17.1: SCase with several arms and labels, with Else and without
func TestCase(t *testing.T) {
	const three = "case n of 1, 2: on := 5; 3: on := 6; else on := 7; end_case;"
	const two = "case n of 1, 2: on := 5; 3: on := 6; end_case;"
	const wide = "case d of 70000, -2147483648: on := 1; 0, 2147483647, -1: on := 2; end_case; e := t#1ms;"
	all(t, []goes{
		{body: three, cells: "n=1", trail: "7 on=5, 9 done"},
		{body: three, cells: "n=2", trail: "11 on=5, 13 done"},
		{body: three, cells: "n=3", trail: "16 on=6, 18 done"},
		{body: three, cells: "n=4", trail: "16 on=7, 17 done"},
		{body: three, cells: "n=0", trail: "16 on=7, 17 done"},
		{body: two, cells: "n=1", trail: "7 on=5, 9 done"},
		{body: two, cells: "n=3", trail: "16 on=6, 18 done"},
		{body: two, cells: "n=-1", trail: "15 done"},
		{body: wide, cells: "d=70000", trail: "7 on=1, 10 e=1, 11 done"},
		{body: wide, cells: "d=-2147483648", trail: "11 on=1, 14 e=1, 15 done"},
		{body: wide, trail: "16 on=2, 19 e=1, 20 done"},
		{body: wide, cells: "d=2147483647", trail: "20 on=2, 23 e=1, 24 done"},
		{body: wide, cells: "d=-1", trail: "24 on=2, 27 e=1, 28 done"},
		{body: wide, cells: "d=5", trail: "24 e=1, 25 done"},
		{body: "case n of -32768: on := 1; 32767: on := 2; end_case;", cells: "n=32767", trail: "12 on=2, 14 done"},
		{body: "case n of 1: 2: on := 1; end_case;", cells: "n=1", trail: "7 done"},
		{body: "case n of 1: 2: on := 1; end_case;", cells: "n=2", trail: "12 on=1, 14 done"},
		{body: "case n of 1: n := 2; 2: n := 3; else n := 4; end_case;", cells: "n=1", trail: "7 n=2, 9 done"},
		{body: "case n of else on := 7; end_case;", trail: "2 on=7, 3 done"},
		{body: "case n of end_case; on := 7;", trail: "2 on=7, 3 done"},
		{body: "case 7 / 0 of end_case;", trail: "1 done"},
		{body: "case 3 of 1: n := 1; 3: n := 2; end_case;", trail: "12 n=2, 14 done"},
		{body: "case 32767 + 1 of -32768: n := 1; 32768: n := 2; end_case;", trail: "12 n=2, 14 done"},
		{body: "case n + on * 2 of 6, 7: on := 1; 8, 9: on := 2; else on := 3; end_case;", cells: "n=1 on=4", trail: "36 on=2, 38 done"},
		{body: "case x[n] of 4: on := 1; 5: case on of 0: on := 2; end_case; end_case;", cells: "n=1 x[1]=5", trail: "19 on=2, 22 done"},
		{body: "case n of 1: if b then on := 1; else on := 2; end_if; d := 3; end_case;", cells: "n=1 b=1", trail: "9 on=1, 12 d=3, 14 done"},
	})
}

// 17.1: SCall with and without args, of a block of each kind, at a time
func TestCall(t *testing.T) {
	all(t, []goes{
		{body: "t();", now: 10, trail: "2 done"},
		{body: "t();", cells: "t.in=1 t.pt=5", now: 10, trail: "1 t.start=10 t.run=1, 2 done"},
		{body: "t(in := b, pt := t#5ms);", cells: "b=1", now: 10, trail: "2 t.in=1, 4 t.pt=5, 5 t.start=10 t.run=1, 6 done"},
		{body: "t(pt := t#5ms, in := b);", cells: "b=1", now: 10, trail: "2 t.pt=5, 4 t.in=1, 5 t.start=10 t.run=1, 6 done"},
		{body: "t(pt := t#5ms);", cells: "t.in=1 t.pt=9 t.start=10 t.run=1", now: 14, trail: "2 t.pt=5, 3 t.et=4, 4 done"},
		{body: "t(in := true);", cells: "t.in=1 t.pt=5 t.start=10 t.run=1", now: 15, trail: "3 t.et=5 t.q=1, 4 done"},
		{body: "t(in := not t.in); b := t.in; t(in := not t.in);", cells: "t.pt=5", now: 2147483647, trail: "3 t.in=1, 4 t.start=2147483647 t.run=1, 6 b=1, 9 t.in=0, 10 t.run=0, 11 done"},
		{body: "f(in := true, pt := t#5ms);", now: 10, trail: "2 f.in=1, 4 f.pt=5, 5 f.q=1, 6 done"},
		{body: "f(in := false);", cells: "f.in=1 f.pt=5 f.q=1", now: 10, trail: "2 f.in=0, 3 f.start=10 f.run=1, 4 done"},
		{body: "f(); f();", cells: "f.pt=5 f.q=1 f.start=3 f.run=1", now: 10, trail: "1 f.q=0 f.et=5 f.run=0, 3 done"},
		{body: "g(in := b);", cells: "b=1 g.pt=5", now: 10, trail: "2 g.in=1, 3 g.start=10 g.run=1 g.q=1, 4 done"},
		{body: "g(in := b);", cells: "g.in=1 g.pt=5 g.start=3 g.run=1 g.q=1", now: 10, trail: "2 g.in=0, 3 g.q=0 g.run=0 g.et=0, 4 done"},
		{body: "c(cu := true, pv := 1);", trail: "2 c.cu=1, 4 c.pv=1, 5 c.cv=1 c.m=1 c.q=1, 6 done"},
		{body: "c(cu := true); c(cu := false); c(cu := true);", cells: "c.pv=5", trail: "2 c.cu=1, 3 c.cv=1 c.m=1, 5 c.cu=0, 6 c.m=0, 8 c.cu=1, 9 c.cv=2 c.m=1, 10 done"},
		{body: "c(r := true);", cells: "c.cv=5 c.pv=3 c.q=1", trail: "2 c.r=1, 3 c.cv=0 c.q=0, 4 done"},
		{body: "k(ld := true, pv := 3);", trail: "2 k.ld=1, 4 k.pv=3, 5 k.cv=3, 6 done"},
		{body: "k(cd := true);", cells: "k.cv=1", trail: "2 k.cd=1, 3 k.cv=0 k.m=1 k.q=1, 4 done"},
		{body: "r(clk := true); r(clk := true);", trail: "2 r.clk=1, 3 r.q=1 r.m=1, 6 r.q=0, 7 done"},
		{body: "w(clk := false);", cells: "w.clk=1 w.m=1", trail: "2 w.clk=0, 3 w.q=1 w.m=0, 4 done"},
		{body: "s(s1 := true, r := true); s(s1 := false);", trail: "2 s.s1=1, 4 s.r=1, 5 s.q1=1, 7 s.s1=0, 8 s.q1=0, 9 done"},
		{body: "z(s := true); z(r1 := true);", trail: "2 z.s=1, 3 z.q1=1, 5 z.r1=1, 6 z.q1=0, 7 done"},
		{body: "q(a := true);", cells: "q.last=1", trail: "2 q.a=1, 3 q.cv=1 q.last=2, 4 done"},
		{body: "q(b := true, a := true); q(r := true);", cells: "q.last=1 q.cv=5", trail: "2 q.b=1, 4 q.a=1, 5 q.err=1 q.last=3, 7 q.r=1, 8 q.cv=0 q.err=0, 9 done"},
		{body: "q(a := n < on + 1, b := xb[n]);", cells: "n=1 on=1 q.last=2 q.b=1", trail: "6 q.a=1, 9 q.b=0, 11 done"},
		{body: "b := r.q; r(clk := not r.clk); o := r.q;", trail: "5 r.clk=1, 6 r.q=1 r.m=1, 8 o=1, 9 done"},
	})
}

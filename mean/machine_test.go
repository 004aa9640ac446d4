package mean_test

import (
	"math/rand"
	"slices"
	"testing"

	"capstan/api"
	"capstan/decl"
	"capstan/gen"
	"capstan/mean"
	"capstan/typed"
)

// bodies are statements of each kind, that go on from scan to scan.
var bodies = []string{
	whole,
	"", "return;", "n := n + 1;", "n := 7; return; n := 8;", "x[n] := x[n - 1] + 1;", "n := n + 1; x[n] := n; on := x[n] * 2;", "n := 7 / n;", "n := n + 1; n := 7 mod (3 - n);", "xb[on] := not xb[on]; on := 1 - on;", "d := d + 70000; e := to_time(d) + t#5s; n := to_int(d);", "xd[n] := xd[0] * 3 + 1; n := n + 1 and 1;",
	"if b then n := 1; end_if; b := not b;", "if n > 2 then n := 0; else n := n + 1; end_if;", "if n = 0 then n := 5; elsif n = 5 then n := 7; elsif b then n := 0; else b := true; end_if;", "if n > 3 then return; end_if; n := n + 1;", "if b then else b := true; return; end_if; n := 5;",
	"n := 0; while n < 5 do n := n + 1; end_while;", "while not b do n := n + 1; if n = 3 then exit; end_if; end_while; n := 0;", "while n < 9 do n := n + 1; if n = 4 then return; end_if; end_while; d := d + 1;", "while true do end_while;", "while in1 > n do n := n + 1; end_while;",
	"repeat n := n + 1; until n mod 5 = 0 end_repeat;", "repeat n := n + 1; if n > 7 then exit; end_if; until n mod 5 = 0 end_repeat;", "repeat until false end_repeat;", "repeat repeat n := n + 1; until n mod 2 = 0 end_repeat; until n mod 3 = 0 end_repeat;",
	"d := 0; for n := 1 to 5 do d := d + to_dint(n); end_for;", "d := 1; for n := 5 to 1 by -2 do d := d * to_dint(n); end_for;", "for n := 5 to 1 do d := d + 1; end_for;", "for n := 1 to 5 by -1 do d := d + 1; end_for;", "for n := 32766 to 32767 do d := d + 1; end_for;", "for n := 0 to 4 do x[n] := n; end_for;", "for d := 0 to 10 by 2147483647 do n := n + 1; end_for;",
	"for n := 0 to 9 do for on := n to 9 do if n + on = 11 then exit; end_if; d := d + 1; end_for; if d > 30 then return; end_if; end_for;", "for n := on to on + 3 do on := on + 1; if on mod 7 = 0 then exit; end_if; end_for;",
	"case n of 0: n := 2; 1, 2: n := 3; else n := 0; end_case;", "case d of 70000: d := -1; -1: d := 0; else d := 70000; end_case;", "n := n + 1; case n of 1: 2: on := 7; return; 3: else on := n; end_case; d := d + 1;", "case 3 of 1: n := 1; 3: n := n + 2; end_case;", "while true do case n of 3: exit; 4: return; else n := n + 1; end_case; end_while; n := 4; d := 7;", "case in1 of end_case; case n of else n := n + 1; end_case;",
	"t(in := true, pt := t#5ms); b := t.q;", "t(in := not t.q, pt := t#3ms); k(cd := t.q, pv := 3, ld := k.q);", "f(in := not f.in, pt := t#2ms); g(in := f.q, pt := t#4ms);", "b := not b; r(clk := b); w(clk := r.q); c(cu := w.q, pv := 3); on := c.cv;", "s(s1 := n = 1, r := n = 3); z(s := s.q1, r1 := n = 4); n := (n + 1) mod 5; o := z.q1;", "q(a := b, b := i); d := q.cv; b := not b;", "t(); f(); g(); c(); k(); r(); w(); s(); z(); q();", "r(clk := true); r(clk := false); r(clk := true); o := r.q;",
}

// 17.3: each kind of statement, scan behind scan, with budgets that are enough, and all that are not
func TestOnTheMachine(t *testing.T) {
	for _, body := range bodies {
		p := program(body)
		m := machineOf(t, p)
		_, cells, _ := typed.Cells(p.Vars)
		for now := int64(0); now < 9; now++ {
			for budget := range 40 {
				agrees(t, p, m, cells, now, budget)
			}
			cells = agrees(t, p, m, cells, now, 3000).Cells
			cells[0], cells[1] = now/2%2, now // the inputs
		}
		if t.Failed() {
			return
		}
	}
}

// says is a program, and what it says of its cells: from those of a scan's beginning to those of its end, at the time now.
type says struct {
	text string
	says func(c []int64, now int64)
}

func short(n int64) int64 { return int64(int16(n)) }

// programs are such ones that a reader tells the meaning of without any layer.
func programs() []says {
	return []says{
		{"program count var n : int := 32765; end_var n := n + 1; end_program", func(c []int64, _ int64) { c[0] = short(c[0] + 1) }},
		{"program euclid var_input a : int; b : int; end_var var_output g : int; end_var var x : int; y : int; z : int; end_var x := a; y := b; while y <> 0 do z := x mod y; x := y; y := z; end_while; g := x; end_program", func(c []int64, _ int64) {
			x, y := c[0], c[1]
			for y != 0 {
				c[5] = x % y
				x, y = y, x%y
			}
			c[2], c[3], c[4] = x, x, 0
		}},
		{"program sort var x : array[0..7] of int; i : int; j : int; h : int; end_var for i := 0 to 6 do for j := 0 to 6 - i do if x[j] > x[j + 1] then h := x[j]; x[j] := x[j + 1]; x[j + 1] := h; end_if; end_for; end_for; h := 0; end_program", func(c []int64, _ int64) {
			slices.Sort(c[:8])
			c[8], c[9], c[10] = 7, 1, 0
		}},
		{"program primes var x : array[0..31] of bool; n : int; m : int; many : int; end_var many := 0; for n := 0 to 31 do x[n] := n > 1; end_for; for n := 2 to 5 do if x[n] then m := n * n; while m < 32 do x[m] := false; m := m + n; end_while; end_if; end_for; for n := 0 to 31 do if x[n] then many := many + 1; end_if; end_for; end_program", func(c []int64, _ int64) {
			for n := range 32 {
				c[n] = truth(slices.Contains([]int{2, 3, 5, 7, 11, 13, 17, 19, 23, 29, 31}, n))
			}
			c[32], c[33], c[34] = 32, 35, 11
		}},
		{"program mean var_input n : int; end_var var_output m : int; end_var var ring : array[0..3] of int; at : int; sum : dint; i : int; end_var ring[at] := n; at := (at + 1) mod 4; sum := 0; i := 0; repeat sum := sum + to_dint(ring[i]); i := i + 1; until i = 4 end_repeat; m := to_int(sum / 4); end_program", func(c []int64, _ int64) {
			c[2+c[6]] = c[0]
			c[6] = (c[6] + 1) % 4
			c[7], c[8] = c[2]+c[3]+c[4]+c[5], 4
			c[1] = c[7] / 4
		}},
		{"program lights var_output red : bool; yellow : bool; green : bool; end_var var state : int; end_var case state of 0: red := true; yellow := false; green := false; 1: yellow := true; 2: red := false; yellow := false; green := true; else yellow := true; green := false; end_case; state := (state + 1) mod 4; end_program", func(c []int64, _ int64) {
			copy(c, [][]int64{{1, 0, 0}, {1, 1, 0}, {0, 0, 1}, {c[0], 1, 0}}[c[3]])
			c[3] = (c[3] + 1) % 4
		}},
		{"program late var_input go : bool; end_var var_output lamp : bool; end_var var t : ton; end_var t(in := go, pt := t#7ms); lamp := t.q; end_program", func(c []int64, now int64) {
			// IN 2, PT 3, Q 4, ET 5, START 6, RUN 7
			c[2], c[3] = c[0], 7
			switch {
			case c[0] == 0:
				c[4], c[5], c[7] = 0, 0, 0
			case c[7] == 0:
				c[4], c[5], c[6], c[7] = 0, 0, now, 1
			default:
				c[5] = min(now-c[6], 7)
				c[4] = truth(now-c[6] >= 7)
			}
			c[1] = c[4]
		}},
		{"program find var_input key : dint; end_var var_output at : int; end_var var x : array[0..9] of dint; i : int; end_var at := -1; for i := 0 to 9 do if x[i] = key then at := i; exit; end_if; end_for; if at < 0 then i := i - 1; while i > 0 do x[i] := x[i - 1]; i := i - 1; end_while; x[0] := key; end_if; end_program", func(c []int64, _ int64) {
			x := c[2:12]
			at := slices.Index(x, c[0])
			c[1], c[12] = int64(at), int64(at)
			if at < 0 {
				copy(x[1:], x[:9])
				x[0], c[12] = c[0], 0
			}
		}},
		{"program bits var_input n : int; end_var var_output odd : bool; high : int; end_var odd := (n and 1) = 1; high := n; if high < 0 then high := not high; end_if; while high mod 2 = 0 and high <> 0 do high := high / 2; end_while; end_program", func(c []int64, _ int64) {
			c[1] = c[0] & 1
			if c[2] = c[0]; c[0] < 0 {
				c[2] = ^c[0]
			}
			for c[2]%2 == 0 && c[2] != 0 {
				c[2] /= 2
			}
		}},
	}
}

// 17.1, 17.3: whole programs, scan behind scan, against what they say, and on the machine
func TestPrograms(t *testing.T) {
	r := rand.New(rand.NewSource(171))
	for _, c := range programs() {
		p, _ := decl.Parse(c.text)
		m := machineOf(t, p)
		types, cells, _ := typed.Cells(p.Vars)
		now := int64(0)
		for range 60 {
			want := slices.Clone(cells)
			for n, v := range p.Vars {
				if v.Dir != api.DInput {
					continue
				}
				want[n] = int64(r.Intn(20 << (n * 7)))
				if types[n] == api.TBool {
					want[n] = truth(r.Intn(12) > 0)
				}
			}
			if p.Name == "SORT" {
				for n := range 8 {
					want[n] = short(int64(r.Intn(1 << 16)))
				}
			}
			given := slices.Clone(want)
			c.says(want, now)
			s := agrees(t, p, m, given, now, api.MaxTicks)
			if s.Trap != api.TDone || !slices.Equal(s.Cells, want) {
				t.Fatalf("%s at %d: of %v %v, not %v", p.Name, now, given, s, want)
			}
			for range 4 {
				agrees(t, p, m, given, now, r.Intn(s.Used+2))
			}
			cells = s.Cells
			now += int64(r.Intn(4))
		}
		follows(t, p, cells, now, 300)
	}
}

// 17.3, W2: texts that chapter 14 refuses are refused by what they mean at the same statement, and for the same
func TestRefusedTogether(t *testing.T) {
	for _, body := range []string{"n := b;", "n := 1; n := 40000;", "exit;", "while b do nobody(); end_while;", "t(q := b);", "x[b] := 1;", "case n of 1, 1: end_case;", "for e := t#1s to t#2s do end_for;", "in1 := 5;"} {
		_, at, e := gen.Compile(heads + body + " end_program")
		if e == api.OK {
			t.Error(body)
		}
		refuses(t, program(body), cellsOf(""), 0, 10, at, e)
	}
}

// Example 1 of the chapter: n := n + 1: 4 ticks, and 1 at the end.
func TestExample(t *testing.T) {
	p, _ := decl.Parse("program p var n : int; end_var n := n + 1; end_program")
	ends(t, p, []int64{7}, 0, 100, mean.End{Cells: []int64{8}, Used: 5, Trap: api.TDone})
	ends(t, p, []int64{7}, 0, 5, mean.End{Cells: []int64{8}, Used: 5, Trap: api.TDone})
	ends(t, p, []int64{7}, 0, 4, mean.End{Cells: []int64{8}, Used: 4, Trap: api.TBudget})
	ends(t, p, []int64{7}, 0, 3, mean.End{Cells: []int64{7}, Used: 3, Trap: api.TBudget})
}

package vm_test

import (
	"math/rand"
	"slices"
	"testing"

	"capstan/api"
)

// says is a program, and what it says of its cells: from those of a scan's beginning to those of its end, at the time now.
type says struct {
	text string
	says func(c []int64, now int64)
}

func short(n int64) int64 { return int64(int16(n)) }

// programs are such ones that a reader tells the meaning of without any layer.
func programs() []says {
	return []says{
		{"program count var n : int := 32765; end_var n := n + 1; end_program", func(c []int64, _ int64) { c[0] = short(c[0] + 1) }},
		{"program euclid var_input a : int; b : int; end_var var_output g : int; end_var var x : int; y : int; z : int; end_var x := a; y := b; while y <> 0 do z := x mod y; x := y; y := z; end_while; g := x; end_program", func(c []int64, _ int64) {
			x, y := c[0], c[1]
			for y != 0 {
				c[5] = x % y
				x, y = y, x%y
			}
			c[2], c[3], c[4] = x, x, 0
		}},
		{"program sort var x : array[0..7] of int; i : int; j : int; h : int; end_var for i := 0 to 6 do for j := 0 to 6 - i do if x[j] > x[j + 1] then h := x[j]; x[j] := x[j + 1]; x[j + 1] := h; end_if; end_for; end_for; h := 0; end_program", func(c []int64, _ int64) {
			slices.Sort(c[:8])
			c[8], c[9], c[10] = 7, 1, 0
		}},
		{"program primes var x : array[0..31] of bool; n : int; m : int; many : int; end_var many := 0; for n := 0 to 31 do x[n] := n > 1; end_for; for n := 2 to 5 do if x[n] then m := n * n; while m < 32 do x[m] := false; m := m + n; end_while; end_if; end_for; for n := 0 to 31 do if x[n] then many := many + 1; end_if; end_for; end_program", func(c []int64, _ int64) {
			for n := range 32 {
				c[n] = truth(slices.Contains([]int{2, 3, 5, 7, 11, 13, 17, 19, 23, 29, 31}, n))
			}
			c[32], c[33], c[34] = 32, 35, 11
		}},
		{"program mean var_input n : int; end_var var_output m : int; end_var var ring : array[0..3] of int; at : int; sum : dint; i : int; end_var ring[at] := n; at := (at + 1) mod 4; sum := 0; i := 0; repeat sum := sum + to_dint(ring[i]); i := i + 1; until i = 4 end_repeat; m := to_int(sum / 4); end_program", func(c []int64, _ int64) {
			c[2+c[6]] = c[0]
			c[6] = (c[6] + 1) % 4
			c[7], c[8] = c[2]+c[3]+c[4]+c[5], 4
			c[1] = c[7] / 4
		}},
		{"program lights var_output red : bool; yellow : bool; green : bool; end_var var state : int; end_var case state of 0: red := true; yellow := false; green := false; 1: yellow := true; 2: red := false; yellow := false; green := true; else yellow := true; green := false; end_case; state := (state + 1) mod 4; end_program", func(c []int64, _ int64) {
			copy(c, [][]int64{{1, 0, 0}, {1, 1, 0}, {0, 0, 1}, {c[0], 1, 0}}[c[3]])
			c[3] = (c[3] + 1) % 4
		}},
		{"program late var_input go : bool; end_var var_output lamp : bool; end_var var t : ton; end_var t(in := go, pt := t#7ms); lamp := t.q; end_program", func(c []int64, now int64) {
			// IN 2, PT 3, Q 4, ET 5, START 6, RUN 7
			c[2], c[3] = c[0], 7
			switch {
			case c[0] == 0:
				c[4], c[5], c[7] = 0, 0, 0
			case c[7] == 0:
				c[4], c[5], c[6], c[7] = 0, 0, now, 1
			default:
				c[5] = min(now-c[6], 7)
				c[4] = truth(now-c[6] >= 7)
			}
			c[1] = c[4]
		}},
		{"program fib var a : dint; b : dint := 1; c : dint; i : int; end_var for i := 1 to 10 do c := a + b; a := b; b := c; end_for; end_program", func(c []int64, _ int64) {
			for range 10 {
				c[2] = int64(int32(c[0] + c[1]))
				c[0], c[1] = c[1], c[2]
			}
			c[3] = 11
		}},
		{"program bits var_input n : int; end_var var_output odd : bool; high : int; end_var odd := (n and 1) = 1; high := n; if high < 0 then high := not high; end_if; while high mod 2 = 0 and high <> 0 do high := high / 2; end_while; end_program", func(c []int64, _ int64) {
			c[1] = c[0] & 1
			if c[2] = c[0]; c[0] < 0 {
				c[2] = ^c[0]
			}
			for c[2]%2 == 0 && c[2] != 0 {
				c[2] /= 2
			}
		}},
	}
}

// 16.2: programs that chapter 14 compiles, scan behind scan, against what they say
func TestPrograms(t *testing.T) {
	r := rand.New(rand.NewSource(162))
	for _, c := range programs() {
		p, x, m := compiled(t, c.text)
		cells := m.First()
		now := int64(0)
		for range 100 {
			want := slices.Clone(cells)
			for n, cell := range x.In {
				want[cell] = int64(r.Intn(20 << (n * 7)))
				if x.Types[cell] == api.TBool {
					want[cell] = truth(r.Intn(12) > 0)
				}
			}
			if p.Name == "SORT" {
				for n := range 8 {
					want[n] = short(int64(r.Intn(1 << 16)))
				}
			}
			given := slices.Clone(want)
			c.says(want, now)
			s := play(t, m, p, x, given, now, api.MaxTicks)
			if s.Trap != api.TDone || !slices.Equal(s.Cells, want) {
				t.Fatalf("%s at %d: of %v %v, not %v", p.Name, now, given, s, want)
			}
			play(t, m, p, x, given, now, r.Intn(s.Used+1))
			cells = s.Cells
			now += int64(r.Intn(4))
		}
	}
}

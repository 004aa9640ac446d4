package code_test

import (
	"fmt"
	"math"
	"testing"

	"capstan/api"
	"capstan/code"
)

var opNames = map[int]string{api.IPush: "PUSH", api.ILoad: "LOAD", api.IStore: "STORE", api.ILoadX: "LOADX", api.IStoreX: "STOREX", api.ITwo: "TWO", api.IOne: "ONE", api.ITo: "TO", api.IJump: "JUMP", api.IFalse: "FALSE", api.ICall: "CALL", api.IEnd: "END"}

// 13.3
func TestShow(t *testing.T) {
	for _, c := range []struct {
		i    api.Instr
		want string
	}{
		{api.Instr{Op: api.IPush, A: 2, N: 5}, "PUSH 2 0 5"},
		{api.Instr{Op: api.IStore}, "STORE 0 0 0"},
		{api.Instr{Op: api.IEnd}, "END 0 0 0"},
		{api.Instr{Op: api.ILoad, A: 1023}, "LOAD 1023 0 0"},
		{api.Instr{Op: api.ILoadX, A: 10, B: 32}, "LOADX 10 32 0"},
		{api.Instr{Op: api.IStoreX, A: 10, B: 1}, "STOREX 10 1 0"},
		{api.Instr{Op: api.ITwo, A: 16, B: 4}, "TWO 16 4 0"},
		{api.Instr{Op: api.IOne, A: 15, B: 3}, "ONE 15 3 0"},
		{api.Instr{Op: api.ITo, A: 2, B: 3}, "TO 2 3 0"},
		{api.Instr{Op: api.IJump, A: 4095}, "JUMP 4095 0 0"},
		{api.Instr{Op: api.IFalse, A: 7}, "FALSE 7 0 0"},
		{api.Instr{Op: api.ICall, A: 10, B: 100}, "CALL 10 100 0"},
		{api.Instr{Op: api.IPush, A: -1, B: -20, N: -300}, "PUSH -1 -20 -300"},
		{api.Instr{Op: api.IEnd, A: math.MinInt, B: math.MaxInt, N: math.MinInt64}, "END -9223372036854775808 9223372036854775807 -9223372036854775808"},
		{api.Instr{}, "? 0 0 0"},
		{api.Instr{Op: 13, A: 1, B: 2, N: 3}, "? 1 2 3"},
		{api.Instr{Op: -1, A: -1, B: -2, N: -3}, "? -1 -2 -3"},
	} {
		if got := code.Show(c.i); got != c.want {
			t.Errorf("%v: %s, not %s", c.i, got, c.want)
		}
	}
}

// 13.3: each Op, and Ops that there are not, with all numbers about edges
func TestShowOfAll(t *testing.T) {
	ops := append([]int{0, 13, 14, 99, 256 + api.IEnd, 1<<32 + api.IEnd}, edges...)
	for op := range opNames {
		ops = append(ops, op)
	}
	for _, op := range ops {
		name := opNames[op]
		if name == "" {
			name = "?"
		}
		for k, n := range append([]int{0, 1, 9, 10}, edges...) {
			i := api.Instr{Op: op, A: n, B: -n, N: int64(edges[k%len(edges)])}
			if got, want := code.Show(i), fmt.Sprintf("%s %d %d %d", name, i.A, i.B, i.N); got != want {
				t.Fatalf("%v: %s, not %s", i, got, want)
			}
		}
	}
}

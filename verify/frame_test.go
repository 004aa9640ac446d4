package verify_test

import (
	"math"
	"slices"
	"strings"
	"testing"

	"capstan/api"
	"capstan/code"
)

// 15.1, 15.2: images that chapter 13's Check refuses for another reason than an instruction
func TestImagesThatMayNotBe(t *testing.T) {
	changes := map[string]func(x *api.Image){
		"no name":              func(x *api.Image) { x.Name = "" },
		"a keyword":            func(x *api.Image) { x.Name = "IF" },
		"not in capitals":      func(x *api.Image) { x.Name = "p" },
		"a name too long":      func(x *api.Image) { x.Name = strings.Repeat("P", api.MaxName+1) },
		"a type too few":       func(x *api.Image) { x.Types = x.Types[1:] },
		"a first too few":      func(x *api.Image) { x.First = x.First[1:] },
		"no types":             func(x *api.Image) { x.Types = nil },
		"no type":              func(x *api.Image) { x.Types[1] = 0 },
		"no type either":       func(x *api.Image) { x.Types[1] = 5 },
		"a type below 0":       func(x *api.Image) { x.Types[1] = math.MinInt },
		"a type modulo 2^8":    func(x *api.Image) { x.Types[1] = 256 + api.TInt },
		"a first of no BOOL":   func(x *api.Image) { x.First[0] = 2 },
		"a first of no INT":    func(x *api.Image) { x.First[1] = 32768 },
		"no input":             func(x *api.Image) { x.In = []int{-1} },
		"no output":            func(x *api.Image) { x.Out = []int{len(x.Types)} },
		"an input twice":       func(x *api.Image) { x.In = []int{1, 2, 1} },
		"an output twice":      func(x *api.Image) { x.Out = []int{3, 3} },
		"input and output":     func(x *api.Image) { x.In, x.Out = []int{1, 2}, []int{3, 2} },
		"nothing":              func(x *api.Image) { *x = api.Image{} },
		"nothing but a name":   func(x *api.Image) { *x = api.Image{Name: "P"} },
		"too many cells":       func(x *api.Image) { x.Types, x.First = slices.Repeat([]int{1}, 1025), make([]int64, 1025) },
		"more cells than bits": func(x *api.Image) { x.Types, x.First = slices.Repeat([]int{1}, 70000), make([]int64, 70000) },
	}
	// code that is right, wrong, and of instructions that may not be
	for what, change := range changes {
		for _, text := range []string{"load 0; false 0; end", "two + I; end", "push I", "load 99; end", "jump 7"} {
			x := image(text)
			change(&x)
			t.Run(what, func(t *testing.T) { tells(t, x, outcome{at: -1, e: api.ErrCode}) })
		}
	}
	for _, l := range [][]api.Instr{nil, {}, slices.Repeat(instrs("end"), api.MaxCode+1), slices.Repeat(instrs("two + I"), api.MaxCode+1), slices.Repeat(instrs("end"), 70000)} {
		tells(t, imageOf(laid, l), outcome{at: -1, e: api.ErrCode})
	}
}

// 15.1, 15.2: instructions that may not be, with their place: ahead of what is wrong else, reached or not
func TestInstructionsThatMayNotBe(t *testing.T) {
	cells := len(laid)
	for _, i := range []api.Instr{
		{}, {Op: 13}, {Op: -1}, {Op: math.MaxInt}, {Op: math.MinInt}, {Op: 256 + api.IEnd},
		{Op: api.IPush}, {Op: api.IPush, A: 5}, {Op: api.IPush, A: api.TBool, N: 2}, {Op: api.IPush, A: api.TInt, N: 40000}, {Op: api.IPush, A: api.TInt, B: 1},
		{Op: api.ILoad, A: -1}, {Op: api.ILoad, A: cells}, {Op: api.ILoad, A: math.MaxInt}, {Op: api.ILoad, B: 1}, {Op: api.IStore, A: -1}, {Op: api.IStore, A: cells}, {Op: api.IStore, N: 1},
		{Op: api.ILoadX, A: 6}, {Op: api.ILoadX, A: 6, B: 4}, {Op: api.ILoadX, A: 6, B: 33}, {Op: api.ILoadX, A: -1, B: 1}, {Op: api.ILoadX, A: math.MaxInt, B: 32}, {Op: api.IStoreX, A: 6}, {Op: api.IStoreX, A: 6, B: 4}, {Op: api.IStoreX, A: cells - 1, B: 2},
		{Op: api.ITwo, A: api.NAdd, B: api.TBool}, {Op: api.ITwo, A: api.NNot, B: api.TInt}, {Op: api.ITwo, B: api.TInt}, {Op: api.ITwo, A: 17, B: api.TInt}, {Op: api.ITwo, A: api.NAdd}, {Op: api.IOne, A: api.NAdd, B: api.TInt}, {Op: api.IOne, A: api.NNeg, B: api.TBool}, {Op: api.IOne, A: api.NNot, B: api.TTime},
		{Op: api.ITo, A: api.TBool, B: api.TInt}, {Op: api.ITo, A: api.TInt, B: api.TBool}, {Op: api.ITo, A: api.TInt}, {Op: api.ITo, B: api.TInt},
		{Op: api.IJump, A: -1}, {Op: api.IJump, A: 4}, {Op: api.IJump, A: math.MaxInt}, {Op: api.IJump, A: math.MinInt}, {Op: api.IJump, B: 1}, {Op: api.IFalse, A: -1}, {Op: api.IFalse, A: 4}, {Op: api.IFalse, A: 1 << 32}, {Op: api.IFalse, N: 1},
		{Op: api.ICall, A: 0, B: 13}, {Op: api.ICall, A: 11, B: 13}, {Op: api.ICall, A: api.BTon, B: 14}, {Op: api.ICall, A: api.BTon, B: -1}, {Op: api.ICall, A: api.BQuad, B: cells - 5}, {Op: api.IEnd, A: 1}, {Op: api.IEnd, B: 1}, {Op: api.IEnd, N: 1},
	} {
		for at, text := range []string{"end; end; end", "load 0; false 0; end", "jump 3; end; end", "end; load 0; load 0", "two + I; end; end", "push I; jump 0; jump 0"} {
			place := at % 4
			l := instrs(text)
			l = slices.Insert(l, place, i)
			tells(t, imageOf(laid, l), outcome{at: place, e: api.ErrCode})
			if at, e := code.Check(imageOf(laid, l)); at != place || e != api.ErrCode {
				t.Errorf("%+v may be", i)
			}
			if place < 3 {
				l[3] = api.Instr{} // of two the first one is told
				tells(t, imageOf(laid, l), outcome{at: place, e: api.ErrCode})
			}
		}
	}
}

// 15.1: the least that an image can be, and as many cells as may be
func TestCells(t *testing.T) {
	tells(t, imageOf("", instrs("end")), outcome{reached: "1"})
	tells(t, imageOf("", instrs("push T; end")), outcome{deep: 1, reached: "11"})
	tells(t, imageOf("", instrs("push T")), outcome{e: api.ErrJump})
	types := strings.Repeat("BIDT", api.MaxCells/4)
	for cell := range api.MaxCells {
		x := imageOf(types, []api.Instr{{Op: api.ILoad, A: cell}, {Op: api.IStore, A: cell}, {Op: api.IEnd}})
		tells(t, x, outcome{deep: 1, reached: "111"})
		x.Code[1].A = (cell + 1) % api.MaxCells
		tells(t, x, outcome{at: 1, e: api.ErrStack})
		x.Code[1].A = (cell + 4) % api.MaxCells
		x.In, x.Out = []int{cell}, []int{x.Code[1].A}
		tells(t, x, outcome{deep: 1, reached: "111"})
	}
}

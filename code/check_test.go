package code_test

import (
	"math"
	"slices"
	"strings"
	"testing"

	"capstan/api"
	"capstan/code"
)

// laid has cells of all kinds of blocks, and behind them a TIME alone and 33 DINTs: TON at 0, CTU at 6, R_TRIG and SR at 12, QUAD at 15.
var laid = "BTBTTB" + "BBIBIB" + "BBB" + "BBBDBI" + "T" + strings.Repeat("D", 33)

const (
	aloneAt = 21
	arrayAt = 22
	cellsOf = 55
)

// around answers an image of the laid cells with the instruction at the place 2 of 4.
func around(i api.Instr) api.Image {
	return imageOf(laid, api.Instr{Op: api.IPush, A: api.TBool, N: 1}, api.Instr{Op: api.IFalse, A: 3}, i, api.Instr{Op: api.IEnd})
}

// the chapter's example
func TestExample(t *testing.T) {
	x := imageOf("I", api.Instr{Op: 1, A: 2, N: 5}, api.Instr{Op: 3}, api.Instr{Op: 12})
	takes(t, x)
	x.Code = append(x.Code, api.Instr{Op: 2, A: 1})
	refuses(t, x, 3)
	x.Code = []api.Instr{{Op: 2, A: 1}, {Op: 1, A: 2, N: 5}, {Op: 12}}
	refuses(t, x, 0)
}

// 13.1: instructions with all that they have right
func TestInstructionsThatMayBe(t *testing.T) {
	for _, i := range []api.Instr{
		{Op: api.IPush, A: api.TBool, N: 0}, {Op: api.IPush, A: api.TBool, N: 1},
		{Op: api.IPush, A: api.TInt, N: -32768}, {Op: api.IPush, A: api.TInt, N: 32767},
		{Op: api.IPush, A: api.TDint, N: math.MinInt32}, {Op: api.IPush, A: api.TDint, N: math.MaxInt32},
		{Op: api.IPush, A: api.TTime, N: math.MinInt32}, {Op: api.IPush, A: api.TTime, N: math.MaxInt32},
		{Op: api.ILoad, A: 0}, {Op: api.ILoad, A: 7}, {Op: api.ILoad, A: cellsOf - 1},
		{Op: api.IStore, A: 0}, {Op: api.IStore, A: 7}, {Op: api.IStore, A: cellsOf - 1},
		{Op: api.ILoadX, A: 0, B: 1}, {Op: api.ILoadX, A: 3, B: 2}, {Op: api.ILoadX, A: arrayAt, B: api.MaxArray}, {Op: api.ILoadX, A: arrayAt + 1, B: api.MaxArray}, {Op: api.ILoadX, A: cellsOf - 1, B: 1},
		{Op: api.IStoreX, A: 0, B: 1}, {Op: api.IStoreX, A: 3, B: 2}, {Op: api.IStoreX, A: arrayAt, B: api.MaxArray}, {Op: api.IStoreX, A: arrayAt + 1, B: api.MaxArray}, {Op: api.IStoreX, A: cellsOf - 1, B: 1},
		{Op: api.ITwo, A: api.NAdd, B: api.TTime}, {Op: api.ITwo, A: api.NDiv, B: api.TInt}, {Op: api.ITwo, A: api.NMod, B: api.TDint}, {Op: api.ITwo, A: api.NXor, B: api.TBool}, {Op: api.ITwo, A: api.NGe, B: api.TTime}, {Op: api.ITwo, A: api.NEq, B: api.TBool},
		{Op: api.IOne, A: api.NNeg, B: api.TTime}, {Op: api.IOne, A: api.NNeg, B: api.TInt}, {Op: api.IOne, A: api.NNot, B: api.TBool}, {Op: api.IOne, A: api.NNot, B: api.TDint},
		{Op: api.ITo, A: api.TInt, B: api.TDint}, {Op: api.ITo, A: api.TTime, B: api.TInt}, {Op: api.ITo, A: api.TInt, B: api.TInt}, {Op: api.ITo, A: api.TBool, B: api.TBool},
		{Op: api.IJump, A: 0}, {Op: api.IJump, A: 2}, {Op: api.IJump, A: 3},
		{Op: api.IFalse, A: 0}, {Op: api.IFalse, A: 2}, {Op: api.IFalse, A: 3},
		{Op: api.ICall, A: api.BTon, B: 0}, {Op: api.ICall, A: api.BTof, B: 0}, {Op: api.ICall, A: api.BTp, B: 0},
		{Op: api.ICall, A: api.BCtu, B: 6}, {Op: api.ICall, A: api.BCtd, B: 6},
		{Op: api.ICall, A: api.BRtrig, B: 12}, {Op: api.ICall, A: api.BFtrig, B: 13}, {Op: api.ICall, A: api.BSr, B: 14}, {Op: api.ICall, A: api.BRs, B: 15},
		{Op: api.ICall, A: api.BQuad, B: 15},
		{Op: api.IEnd},
	} {
		takes(t, around(i))
	}
}

// 13.1: instructions of which one thing is wrong
func TestInstructionsThatMayNotBe(t *testing.T) {
	for _, i := range []api.Instr{
		// a type that there is not, a value that does not fit
		{Op: api.IPush}, {Op: api.IPush, A: 5}, {Op: api.IPush, A: -1}, {Op: api.IPush, A: 101},
		{Op: api.IPush, A: api.TBool, N: 2}, {Op: api.IPush, A: api.TBool, N: -1},
		{Op: api.IPush, A: api.TInt, N: 32768}, {Op: api.IPush, A: api.TInt, N: -32769},
		{Op: api.IPush, A: api.TDint, N: 1 << 31}, {Op: api.IPush, A: api.TDint, N: -1<<31 - 1},
		{Op: api.IPush, A: api.TTime, N: 1 << 31}, {Op: api.IPush, A: api.TTime, N: -1<<31 - 1},
		{Op: api.IPush, A: api.TDint, N: 1 << 48}, {Op: api.IPush, A: api.TDint, N: 1<<47 - 1}, {Op: api.IPush, A: api.TDint, N: -1 << 47},
		// cells that are not there
		{Op: api.ILoad, A: -1}, {Op: api.ILoad, A: cellsOf}, {Op: api.ILoad, A: cellsOf + 1}, {Op: api.ILoad, A: math.MinInt}, {Op: api.ILoad, A: math.MaxInt},
		{Op: api.IStore, A: -1}, {Op: api.IStore, A: cellsOf}, {Op: api.IStore, A: cellsOf + 1}, {Op: api.IStore, A: math.MinInt}, {Op: api.IStore, A: math.MaxInt},
		// too few cells, too many, some behind the end, some of other types
		{Op: api.ILoadX, A: arrayAt}, {Op: api.ILoadX, A: arrayAt, B: -1}, {Op: api.ILoadX, A: arrayAt, B: api.MaxArray + 1}, {Op: api.ILoadX, A: arrayAt + 2, B: api.MaxArray}, {Op: api.ILoadX, A: cellsOf - 1, B: 2}, {Op: api.ILoadX, A: cellsOf, B: 1}, {Op: api.ILoadX, A: -1, B: 1}, {Op: api.ILoadX, A: aloneAt, B: 2}, {Op: api.ILoadX, A: 3, B: 3}, {Op: api.ILoadX, A: math.MaxInt, B: 1}, {Op: api.ILoadX, A: arrayAt, B: math.MaxInt}, {Op: api.ILoadX, A: math.MinInt, B: 32}, {Op: api.ILoadX, A: arrayAt, B: math.MinInt},
		{Op: api.IStoreX, A: arrayAt}, {Op: api.IStoreX, A: arrayAt, B: -1}, {Op: api.IStoreX, A: arrayAt, B: api.MaxArray + 1}, {Op: api.IStoreX, A: arrayAt + 2, B: api.MaxArray}, {Op: api.IStoreX, A: cellsOf - 1, B: 2}, {Op: api.IStoreX, A: cellsOf, B: 1}, {Op: api.IStoreX, A: -1, B: 1}, {Op: api.IStoreX, A: aloneAt, B: 2}, {Op: api.IStoreX, A: 3, B: 3}, {Op: api.IStoreX, A: math.MaxInt, B: 1}, {Op: api.IStoreX, A: arrayAt, B: math.MaxInt}, {Op: api.IStoreX, A: math.MinInt, B: 32}, {Op: api.IStoreX, A: arrayAt, B: math.MinInt},
		// operations that a type does not have, of one value in the place of two, and the other way
		{Op: api.ITwo, A: api.NAdd, B: api.TBool}, {Op: api.ITwo, A: api.NMul, B: api.TTime}, {Op: api.ITwo, A: api.NAnd, B: api.TTime}, {Op: api.ITwo, A: api.NLt, B: api.TBool}, {Op: api.ITwo, A: api.NNeg, B: api.TInt}, {Op: api.ITwo, A: api.NNot, B: api.TInt}, {Op: api.ITwo, B: api.TInt}, {Op: api.ITwo, A: 17, B: api.TInt}, {Op: api.ITwo, A: -1, B: api.TInt}, {Op: api.ITwo, A: api.NAdd}, {Op: api.ITwo, A: api.NAdd, B: 5},
		{Op: api.IOne, A: api.NNeg, B: api.TBool}, {Op: api.IOne, A: api.NNot, B: api.TTime}, {Op: api.IOne, A: api.NSub, B: api.TInt}, {Op: api.IOne, A: api.NXor, B: api.TInt}, {Op: api.IOne, B: api.TInt}, {Op: api.IOne, A: 17, B: api.TInt}, {Op: api.IOne, A: -1, B: api.TInt}, {Op: api.IOne, A: api.NNeg}, {Op: api.IOne, A: api.NNeg, B: 5},
		// types between which there is no conversion
		{Op: api.ITo, A: api.TBool, B: api.TInt}, {Op: api.ITo, A: api.TTime, B: api.TBool}, {Op: api.ITo, A: api.TInt}, {Op: api.ITo, B: api.TInt}, {Op: api.ITo, A: 5, B: api.TInt}, {Op: api.ITo, A: api.TInt, B: 5}, {Op: api.ITo}, {Op: api.ITo, A: 5, B: 5},
		// places that are not there
		{Op: api.IJump, A: -1}, {Op: api.IJump, A: 4}, {Op: api.IJump, A: 5}, {Op: api.IJump, A: cellsOf - 1}, {Op: api.IJump, A: math.MinInt}, {Op: api.IJump, A: math.MaxInt},
		{Op: api.IFalse, A: -1}, {Op: api.IFalse, A: 4}, {Op: api.IFalse, A: 5}, {Op: api.IFalse, A: cellsOf - 1}, {Op: api.IFalse, A: math.MinInt}, {Op: api.IFalse, A: math.MaxInt},
		// kinds that there are not, fields' cells that are of other types or not there
		{Op: api.ICall}, {Op: api.ICall, A: 11, B: 12}, {Op: api.ICall, A: -1, B: 12}, {Op: api.ICall, A: api.Block + api.BRtrig, B: 12},
		{Op: api.ICall, A: api.BTon, B: 6}, {Op: api.ICall, A: api.BTon, B: 1}, {Op: api.ICall, A: api.BCtu, B: 0}, {Op: api.ICall, A: api.BCtd, B: 15}, {Op: api.ICall, A: api.BQuad, B: 6}, {Op: api.ICall, A: api.BQuad, B: 12}, {Op: api.ICall, A: api.BSr, B: 16}, {Op: api.ICall, A: api.BRs, B: arrayAt},
		{Op: api.ICall, A: api.BRtrig, B: -1}, {Op: api.ICall, A: api.BRtrig, B: cellsOf - 2}, {Op: api.ICall, A: api.BRtrig, B: cellsOf}, {Op: api.ICall, A: api.BTon, B: math.MaxInt}, {Op: api.ICall, A: api.BTon, B: math.MaxInt - 2}, {Op: api.ICall, A: api.BTon, B: math.MinInt},
	} {
		refuses(t, around(i), 2)
	}
}

// 13.1: what is not named and is not 0
func TestWhatIsNotNamedIsZero(t *testing.T) {
	for _, right := range []api.Instr{
		{Op: api.IPush, A: api.TInt, N: 5}, {Op: api.ILoad, A: 3}, {Op: api.IStore, A: 3}, {Op: api.ILoadX, A: arrayAt, B: 3}, {Op: api.IStoreX, A: arrayAt, B: 3},
		{Op: api.ITwo, A: api.NAdd, B: api.TInt}, {Op: api.IOne, A: api.NNeg, B: api.TInt}, {Op: api.ITo, A: api.TInt, B: api.TDint},
		{Op: api.IJump, A: 1}, {Op: api.IFalse, A: 1}, {Op: api.ICall, A: api.BCtu, B: 6}, {Op: api.IEnd},
	} {
		takes(t, around(right))
		for _, n := range append([]int{1, 2, 3}, edges...) {
			wrong := right
			if right.Op == api.IEnd {
				wrong.A = n
				refuses(t, around(wrong), 2)
				wrong = right
			}
			if slices.Contains([]int{api.IPush, api.ILoad, api.IStore, api.IJump, api.IFalse, api.IEnd}, right.Op) {
				wrong.B = n
				refuses(t, around(wrong), 2)
				wrong = right
			}
			if right.Op != api.IPush {
				wrong.N = int64(n)
				refuses(t, around(wrong), 2)
			}
		}
	}
}

// 13.1: Ops that there are not
func TestNoOps(t *testing.T) {
	for _, op := range append([]int{0, 13, 14, 99, 256 + api.IEnd, 1<<32 + api.IEnd}, edges...) {
		refuses(t, around(api.Instr{Op: op}), 2)
		refuses(t, around(api.Instr{Op: op, A: api.TBool, N: 1}), 2)
	}
}

// 13.1: all Ops with all numbers about the edges of all that they have, held against the chapter's table; the cells end in each kind's fields once
func TestAllInstructions(t *testing.T) {
	layouts := []string{"", "B", "T", "BBB", "II", laid, laid + "BTBTTB", laid + "BBIBIB", laid + "BBB", laid + "BBBDBI", laid + "BBBDB"}
	ns := []int64{math.MinInt64, -1 << 47, -1<<31 - 1, -1 << 31, -32769, -32768, -1, 0, 1, 2, 32767, 32768, 1<<31 - 1, 1 << 31, 1 << 48, math.MaxInt64}
	for _, layout := range layouts {
		var near []int
		for n := -2; n <= len(layout)+2; n++ {
			near = append(near, n)
		}
		near = append(near, edges...)
		for op := -1; op <= 14; op++ {
			for _, a := range near {
				for _, b := range near {
					holdAll(t, layout, api.Instr{Op: op, A: a, B: b}, []int64{0, 1})
				}
				holdAll(t, layout, api.Instr{Op: op, A: a}, ns)
			}
		}
	}
}

// holdAll holds Check of the instruction with each of these numbers as N against the chapter's table.
func holdAll(t *testing.T, layout string, i api.Instr, ns []int64) {
	t.Helper()
	x := imageOf(layout, api.Instr{Op: api.IEnd}, i)
	for _, n := range ns {
		x.Code[1].N = n
		wantAt, want := checked(x)
		if at, e := code.Check(x); at != wantAt || e != want {
			t.Fatalf("cells %s, %v: %d, %d, not %d, %d", layout, x.Code[1], at, e, wantAt, want)
		}
	}
}

// 13.1: arrays of each type, of each length, that begin at each cell
func TestArrays(t *testing.T) {
	for _, typ := range []string{"B", "I", "D", "T"} {
		for many := range 40 {
			for _, types := range []string{strings.Repeat(typ, many), strings.Repeat(typ, many) + "?", "?" + strings.Repeat(typ, many)} {
				other := "B"
				if typ == "B" {
					other = "T"
				}
				types = strings.ReplaceAll(types, "?", other)
				for a := -1; a <= len(types); a++ {
					for b := -1; b <= 34; b++ {
						holdAll(t, types, api.Instr{Op: api.ILoadX, A: a, B: b}, []int64{0})
						holdAll(t, types, api.Instr{Op: api.IStoreX, A: a, B: b}, []int64{0})
					}
				}
			}
		}
	}
}

// 13.1: each kind of block on its own fields, with one of them of another type, and with one too few
func TestBlocksOfOtherFields(t *testing.T) {
	for kind := api.BTon; kind <= api.BQuad; kind++ {
		fields := fieldsOf(kind)
		call := api.Instr{Op: api.ICall, A: kind}
		takes(t, imageOf(fields, call))
		refuses(t, imageOf(fields[:len(fields)-1], call), 0)
		refuses(t, imageOf(fields[1:], call), 0)
		for at := range fields {
			for _, other := range "BIDT" {
				if byte(other) != fields[at] {
					refuses(t, imageOf(fields[:at]+string(other)+fields[at+1:], call), 0)
				}
			}
		}
		call.B = 1
		takes(t, imageOf("T"+fields, call))
		refuses(t, imageOf("T"+fields[:len(fields)-1], call), 0)
	}
}

// 13.1: the first of several instructions that may not be
func TestFirstPlaceIsTold(t *testing.T) {
	const many = 9
	for set := range 1 << many {
		x := imageOf("I")
		first := -1
		for at := range many {
			i := api.Instr{Op: api.ILoad}
			if set>>at&1 == 1 {
				i = []api.Instr{{Op: api.ILoad, A: 1}, {}, {Op: api.IJump, A: many}, {Op: api.ICall, A: 11}}[at%4]
				if first < 0 {
					first = at
				}
			}
			x.Code = append(x.Code, i)
		}
		if first < 0 {
			takes(t, x)
		} else {
			refuses(t, x, first)
		}
		x.Name = ""
		refuses(t, x, -1)
	}
}

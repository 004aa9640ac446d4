package code_test

import (
	"math"
	"slices"
	"strings"
	"testing"

	"capstan/api"
	"capstan/code"
)

// plain answers an image that may be.
func plain() api.Image {
	x := imageOf("BIDTBI", api.Instr{Op: api.ILoad, A: 1}, api.Instr{Op: api.IStore, A: 5}, api.Instr{Op: api.IEnd})
	x.First = []int64{1, -7, 70000, -70000, 0, 32767}
	x.In, x.Out = []int{1, 0}, []int{5, 2}
	return x
}

// refusesFrame holds that x is refused for another reason than an instruction, with instructions that may be, and besides one that may not.
func refusesFrame(t *testing.T, x api.Image) {
	t.Helper()
	refuses(t, x, -1)
	x.Code = append(slices.Clone(x.Code), api.Instr{})
	refuses(t, x, -1)
	x.Code = append([]api.Instr{{}}, x.Code...)
	refuses(t, x, -1)
}

// 13.1
func TestNames(t *testing.T) {
	x := plain()
	for _, name := range []string{"P", "_", "A1", "A_1", "Z9", "__", "IFF", "END", "ENDIF", "PUSH", strings.Repeat("A", api.MaxName), strings.Repeat("_", api.MaxName)} {
		x.Name = name
		takes(t, x)
		holdCheck(t, x)
	}
	none := []string{"", "p", "Pa", "aP", "1", "1A", " P", "P ", "A B", "A-B", "A.B", "A$", "P\x00", "\x00", "\xff", "\u00c4", "P\u00c4", "[", "@", "`", strings.Repeat("A", api.MaxName+1), strings.Repeat("A", api.MaxBytes)}
	for _, name := range append(none, strings.Fields(keywords)...) {
		x.Name = name
		refusesFrame(t, x)
	}
}

// 13.1: as many Types as First, none, as many as may be, one more
func TestHowManyCells(t *testing.T) {
	end := []api.Instr{{Op: api.IEnd}}
	for _, many := range []int{0, 1, 2, 3, api.MaxCells - 1, api.MaxCells, api.MaxCells + 1, api.MaxCells + 2, 5000} {
		x := api.Image{Name: "P", Types: slices.Repeat([]int{api.TInt}, many), First: make([]int64, many), Code: end}
		if many <= api.MaxCells {
			takes(t, x)
		} else {
			refusesFrame(t, x)
		}
		x.First = make([]int64, many+1)
		refusesFrame(t, x)
		x.Types, x.First = append(x.Types, api.TInt), x.First[:many]
		refusesFrame(t, x)
		x.Types, x.First = nil, make([]int64, many)
		if many > 0 {
			refusesFrame(t, x)
		}
		x.Types, x.First = slices.Repeat([]int{api.TInt}, many), nil
		if many > 0 {
			refusesFrame(t, x)
		}
	}
	// the last cell that may be, and the one behind it
	x := api.Image{Name: "P", Types: slices.Repeat([]int{api.TBool}, api.MaxCells), First: make([]int64, api.MaxCells), Code: end}
	x.In, x.Out = []int{api.MaxCells - 1}, []int{0}
	x.Code = []api.Instr{{Op: api.ILoad, A: api.MaxCells - 1}, {Op: api.ILoadX, A: api.MaxCells - 32, B: 32}, {Op: api.ICall, A: api.BSr, B: api.MaxCells - 3}}
	takes(t, x)
	x.Code = append(x.Code, api.Instr{Op: api.ILoad, A: api.MaxCells})
	refuses(t, x, 3)
	x.In = []int{api.MaxCells}
	refuses(t, x, -1)
}

// 13.1: types that are none, first values that do not fit, at each cell
func TestTypesAndFirsts(t *testing.T) {
	for at := range plain().Types {
		for _, typ := range append([]int{0, 5, 6, 100, 101}, edges...) {
			x := plain()
			x.Types[at], x.First[at] = typ, 0
			refusesFrame(t, x)
		}
		for typ := api.TBool; typ <= api.TTime; typ++ {
			for _, n := range []int64{math.MinInt64, -1<<31 - 1, -1 << 31, -32769, -32768, -1, 0, 1, 2, 32767, 32768, 1<<31 - 1, 1 << 31, 1 << 32, math.MaxInt64} {
				x := plain()
				x.Types[at], x.First[at] = typ, n
				if fits(typ, n) {
					takes(t, x)
				} else {
					refusesFrame(t, x)
				}
			}
		}
	}
}

// 13.1: In and Out: cells that are not there, one twice in one of them, one in both
func TestInAndOut(t *testing.T) {
	for _, l := range [][2][]int{{}, {{0}, nil}, {nil, {0}}, {{5}, {0}}, {{0, 1, 2, 3, 4, 5}, nil}, {nil, {5, 4, 3, 2, 1, 0}}, {{3, 1}, {0, 5, 2}}} {
		x := plain()
		x.In, x.Out = l[0], l[1]
		takes(t, x)
	}
	for _, l := range [][2][]int{
		{{0, 0}, nil}, {nil, {0, 0}}, {{0}, {0}}, {{5}, {5}}, {{1, 2, 1}, nil}, {nil, {1, 2, 3, 1}}, {{1, 2}, {3, 4, 2}}, {{4, 3, 1}, {0, 4}},
		{{0, 1, 2, 3, 4, 5}, {0}}, {{0, 1, 2, 3, 4, 5, 5}, nil},
	} {
		x := plain()
		x.In, x.Out = l[0], l[1]
		refusesFrame(t, x)
	}
	for _, c := range append([]int{6, 7}, edges...) {
		for _, l := range [][]int{{c}, {0, c}, {c, 0}, {1, c, 2}} {
			x := plain()
			x.In, x.Out = l, nil
			refusesFrame(t, x)
			x.In, x.Out = nil, l
			refusesFrame(t, x)
			x.In, x.Out = []int{5}, l
			refusesFrame(t, x)
		}
	}
	none := imageOf("", api.Instr{Op: api.IEnd})
	takes(t, none)
	none.In = []int{0}
	refusesFrame(t, none)
	none.In, none.Out = nil, []int{0}
	refusesFrame(t, none)
}

// 13.1: no instruction, one, MaxCode, one more
func TestHowManyInstructions(t *testing.T) {
	x := plain()
	for _, l := range [][]api.Instr{nil, {}} {
		x.Code = l
		refuses(t, x, -1)
	}
	for _, many := range []int{1, 2, api.MaxCode - 1, api.MaxCode} {
		x.Code = slices.Repeat([]api.Instr{{Op: api.IEnd}}, many)
		takes(t, x)
		x.Code[many-1] = api.Instr{Op: api.IJump, A: many - 1}
		takes(t, x)
		x.Code[many-1].A = many
		refuses(t, x, many-1)
		x.Code[many-1] = api.Instr{}
		refuses(t, x, many-1)
	}
	for _, many := range []int{api.MaxCode + 1, api.MaxCode + 2, 65536, 70000} {
		x.Code = slices.Repeat([]api.Instr{{Op: api.IEnd}}, many)
		refusesFrame(t, x)
	}
}

// R3: lists without an element are the same, nil or empty
func TestNilAndEmpty(t *testing.T) {
	a := api.Image{Name: "P", Code: []api.Instr{{Op: api.IEnd}}}
	b := a
	b.Types, b.First, b.In, b.Out = []int{}, []int64{}, []int{}, []int{}
	takes(t, a)
	takes(t, b)
	s, e := code.Encode(a)
	u, f := code.Encode(b)
	if s != u || e != api.OK || f != api.OK {
		t.Errorf("%q, %d; %q, %d", s, e, u, f)
	}
}

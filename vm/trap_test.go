package vm_test

import (
	"fmt"
	"math"
	"slices"
	"strings"
	"testing"

	"capstan/api"
)

// indexes are what an index can be: near 0, near the array's end, the least and the greatest of INT and DINT.
func indexes(many int64) []int64 {
	return []int64{0, 1, many - 1, many, many + 1, -1, -2, -many, 31, 32, 33, 255, 256, 257, -32768, -32767, 32766, 32767, 65535, 65536, -65536, math.MinInt32, math.MinInt32 + 1, math.MaxInt32 - 1, math.MaxInt32}
}

// 16.2: indexes of ILoadX and IStoreX, of TInt and of TDint, in arrays of each type and length, in the midst of the cells and at their ends
func TestIndexes(t *testing.T) {
	traps, fine := 0, 0
	for y := api.TBool; y <= api.TTime; y++ {
		for _, many := range []int{1, 2, 3, 31, 32} {
			for _, ahead := range []int{0, 1, 40} {
				for _, index := range []int{api.TInt, api.TDint} {
					a, b := indexed(t, y, many, ahead, index)
					traps, fine = traps+a, fine+b
				}
			}
		}
	}
	if traps < 1000 || fine < 300 {
		t.Error(traps, fine)
	}
}

// indexed fails the test unless both instructions do what they should in an array of so many of the type y, behind and ahead of others of the type; the index and the value are the last cells. It answers how often an index trapped, and how often not.
func indexed(t *testing.T, y, many, ahead, index int) (traps, fine int) {
	t.Helper()
	letter := letters[y-1 : y]
	types := strings.Repeat(letter, ahead+many+ahead)
	at := len(types)
	types += letters[index-1:index] + letter
	load := imageOf(types, []api.Instr{{Op: api.ILoad, A: at}, {Op: api.ILoadX, A: ahead, B: many}, {Op: api.IStore, A: at + 1}, {Op: api.IEnd}})
	store := imageOf(types, []api.Instr{{Op: api.ILoad, A: at}, {Op: api.ILoad, A: at + 1}, {Op: api.IStoreX, A: ahead, B: many}, {Op: api.IEnd}})
	loads, stores := machine(t, load), machine(t, store)
	for _, n := range indexes(int64(many)) {
		if !fits(index, n) {
			continue
		}
		cells := make([]int64, len(types))
		for k := range at {
			cells[k] = int64(k+1) & spans[y][1]
		}
		cells[at], cells[at+1] = n, 0
		loaded, stored := ran{places: []int{0, 1}}, ran{places: []int{0, 1, 2}}
		loaded.Cells, stored.Cells = slices.Clone(cells), slices.Clone(cells)
		loaded.Used, loaded.Trap, loaded.At = 2, api.TIndex, 1
		stored.Used, stored.Trap, stored.At = 3, api.TIndex, 2
		if traps++; n >= 0 && n < int64(many) {
			traps, fine = traps-1, fine+1
			loaded.places, stored.places = []int{0, 1, 2, 3}, []int{0, 1, 2, 3}
			loaded.Used, loaded.Trap, loaded.At = 4, api.TDone, 3
			stored.Used, stored.Trap, stored.At = 4, api.TDone, 3
			loaded.Cells[at+1] = cells[ahead+int(n)]
			stored.Cells[ahead+int(n)] = 0
		}
		tells(t, loads, cells, 0, 9, loaded)
		tells(t, stores, cells, 0, 9, stored)
		holds(t, loads, load, cells, 0, 9)
		holds(t, stores, store, cells, 0, 9)
	}
	return traps, fine
}

// 16.2: what was stored ahead of a trap stays; what traps changes no cell, and nothing behind it is done
func TestBehindATrap(t *testing.T) {
	const full = "6=60 7=70 8=80 9=90 "
	for _, c := range []struct {
		code, cells, behind string
		used, trap          int
	}{
		{"push I 5; store 1; push I 3; loadx 6 3; store 7; end", full, full + "1=5", 4, api.TIndex}, {"push I 5; store 1; push I -1; loadx 6 3; store 7; end", full, full + "1=5", 4, api.TIndex}, {"push I 5; store 1; push I 3; push I 4; storex 6 3; push I 6; store 1; end", full, full + "1=5", 5, api.TIndex}, {"push D -1; push I 4; storex 6 3; end", full, full, 3, api.TIndex}, {"push D 3; push I 0; storex 6 3; end", full, full, 3, api.TIndex},
		{"push I 5; store 1; push I 7; push I 0; two / I; store 7; end", full, full + "1=5", 5, api.TZero}, {"push I 7; load 1; two mod I; store 7; end", full, full, 3, api.TZero}, {"push D 0; push D 0; two / D; store 2; end", full + "2=1", full + "2=1", 3, api.TZero}, {"push D -2147483648; load 2; two mod D; store 2; end", full, full, 3, api.TZero},
		{"push I 0; push I 7; push I 0; two / I; storex 6 3; end", full, full, 4, api.TZero}, {"push I 9; push I 7; push I 0; two / I; storex 6 3; end", full, full, 4, api.TZero}, {"push I 9; loadx 6 3; push I 0; two / I; end", full, full, 2, api.TIndex},
		{"push B 1; store 13; call 1 13; push I 3; loadx 6 3; end", "14=5", "13=1 14=5 18=1", 5, api.TIndex},
		{"push I 0; push I 2; push I 3; storex 6 3; push I 32; loadx 1 1; end", full, full + "8=3", 6, api.TIndex},
	} {
		want := end{c.behind, c.used, c.trap, c.used - 1}
		for _, budget := range []int{c.used, c.used + 1, 100, api.MaxTicks} {
			ends(t, c.code, c.cells, budget, want)
		}
		ends(t, c.code, c.cells, c.used-1, end{c.behind, c.used - 1, api.TBudget, c.used - 1}) // the trap alone is missing
	}
}

// 16.2: a division, and a rest, by 0 of each type that has them; by others not
func TestDivisions(t *testing.T) {
	for _, c := range []struct{ types, cell string }{{"I", "1"}, {"D", "2"}} {
		y := typeOf(c.types)
		for _, sign := range []string{"/", "mod"} {
			code := fmt.Sprintf("load %s; push %s 0; two %s %s; store %s; end", c.cell, c.types, sign, c.types, c.cell)
			by := strings.Replace(code, " 0;", " -1;", 1)
			for _, n := range edgesOf(y) {
				cells := fmt.Sprintf("%s=%d", c.cell, n)
				ends(t, code, cells, 100, end{cells, 3, api.TZero, 2})
				left := fmt.Sprintf("%s=%d", c.cell, wrapped(y, -n))
				if sign == "mod" {
					left = ""
				}
				ends(t, by, cells, 100, end{left, 5, api.TDone, 4})
			}
		}
	}
}

// 16.2: a trap far behind, at its place
func TestTrapsFarBehind(t *testing.T) {
	for _, c := range []struct {
		code string
		trap int
	}{{"push I 1; push I 0; two / I; store 1", api.TZero}, {"push I 1; push I -1; two mod I; loadx 6 3; store 1", api.TDone}, {"push I 1; push I 3; storex 1 1", api.TIndex}} {
		x := image(strings.Repeat("jump 0; ", 4000) + c.code + "; end")
		for n := range 4000 {
			x.Code[n] = api.Instr{Op: api.IJump, A: n + 1}
		}
		s := holds(t, machine(t, x), x, x.First, 0, api.MaxTicks)
		if want := 4003 + truth(c.trap == api.TDone)*3; s.Trap != c.trap || s.Used != int(want) || s.At != int(want)-1 {
			t.Errorf("%s: %v", c.code, s.End)
		}
	}
}

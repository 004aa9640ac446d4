package vm_test

import (
	"fmt"
	"math"
	"slices"
	"strings"
	"testing"

	"capstan/api"
	"capstan/vm"
)

// refuses fails the test unless Scan and Trace refuse these for e, with nothing beside it; OK: unless both take them.
func refuses(t *testing.T, m *vm.Machine, cells []int64, now int64, budget int, e api.Errno) {
	t.Helper()
	given := slices.Clone(cells)
	end, got := m.Scan(given, now, budget)
	places, got2 := m.Trace(given, now, budget)
	if got != e || got2 != e {
		t.Errorf("%.100v, now %d, budget %d: Scan %d, Trace %d, not %d", cells, now, budget, got, got2, e)
	}
	if e != api.OK && (len(end.Cells) > 0 || end.Used != 0 || end.Trap != 0 || end.At != 0 || len(places) > 0) {
		t.Errorf("%.100v, now %d, budget %d: beside %d %v, %v", cells, now, budget, e, end, places)
	}
	if !slices.Equal(given, cells) {
		t.Errorf("%.100v: changed to %v", cells, given)
	}
}

// 16.2, 16.3: too few cells, too many, none; ahead of all else that is wrong
func TestShapes(t *testing.T) {
	for _, types := range []string{"", "B", "BI", laid, strings.Repeat("BIDT", 256)} {
		m := machine(t, imageOf(types, instrs("push I 1; end")))
		for _, many := range []int{0, 1, 2, len(types) - 1, len(types) + 1, len(types) + 2, 2 * len(types), 1023, 1024, 1025, 70000} {
			if many < 0 {
				continue
			}
			e := api.ErrShape
			if many == len(types) {
				e = api.OK
			}
			cells := make([]int64, many)
			refuses(t, m, cells, 0, 10, e)
			if e == api.OK {
				continue
			}
			refuses(t, m, cells, -1, 10, e)
			refuses(t, m, cells, 2147483648, 10, e)
			refuses(t, m, cells, 0, -1, e)
			refuses(t, m, cells, 0, api.MaxTicks+1, e)
			refuses(t, m, cells, math.MinInt64, math.MinInt, e)
			for n := range cells {
				cells[n] = math.MaxInt64
			}
			refuses(t, m, cells, 0, 10, e)
		}
		refuses(t, m, nil, 0, 10, map[bool]api.Errno{true: api.OK, false: api.ErrShape}[types == ""])
		refuses(t, m, []int64{}, 0, 10, map[bool]api.Errno{true: api.OK, false: api.ErrShape}[types == ""])
	}
}

// 16.2, 16.3: a cell that does not fit its type, just inside and just outside, at each place; whether the code uses it or not
func TestCellsThatDoNotFit(t *testing.T) {
	for _, code := range []string{"end", "load 1; store 7; end", "jump 0"} {
		m := machine(t, image(code))
		for at := range laid {
			y := typeOf(laid[at : at+1])
			least, most := spans[y][0], spans[y][1]
			for _, n := range []int64{least, least + 1, 0, 1, most - 1, most} {
				refuses(t, m, with(len(laid), fmt.Sprintf("%d=%d", at, n)), 0, 10, api.OK)
			}
			for _, n := range []int64{least - 1, most + 1, least - 2, most + 2, 1 << 32, -1 << 32, 1<<32 + 1, 1<<16 + 1<<32, math.MinInt64, math.MaxInt64} {
				refuses(t, m, with(len(laid), fmt.Sprintf("%d=%d", at, n)), 0, 10, api.ErrRange)
				refuses(t, m, with(len(laid), fmt.Sprintf("%d=%d", at, n)), 0, 0, api.ErrRange)
			}
		}
	}
	for n, c := range map[int64]string{2: "B", -1: "B", 32768: "I", -32769: "I", 2147483648: "DT", -2147483649: "DT"} {
		for _, letter := range strings.Split(c, "") {
			m := machine(t, imageOf(letter, instrs("end")))
			refuses(t, m, []int64{n}, 0, 1, api.ErrRange)
			refuses(t, m, []int64{n + truth(n < 0) - truth(n > 0)}, 0, 1, api.OK)
		}
	}
}

// 16.2, 16.3: now, and the budget, just inside and just outside
func TestNowAndBudget(t *testing.T) {
	for _, x := range []api.Image{image("end"), image("call 1 13; end"), image("jump 0"), imageOf("", instrs("end"))} {
		m := machine(t, x)
		for _, now := range []int64{0, 1, 32768, 65536, 2147483646, 2147483647} {
			refuses(t, m, m.First(), now, 10, api.OK)
		}
		for _, now := range []int64{-1, -2, 2147483648, 2147483649, 1 << 32, 1<<32 + 5, -1 << 31, -1 << 32, math.MinInt64, math.MaxInt64} {
			refuses(t, m, m.First(), now, 10, api.ErrRange)
			refuses(t, m, m.First(), now, 0, api.ErrRange)
			refuses(t, m, m.First(), now, -1, api.ErrRange)
		}
		for _, budget := range []int{0, 1, 2, 4096, 4097, 65535, 65536} {
			refuses(t, m, m.First(), 0, budget, api.OK)
			refuses(t, m, m.First(), 2147483647, budget, api.OK)
			refuses(t, m, m.First(), 2147483648, budget, api.ErrRange)
		}
		for _, budget := range []int{-1, -2, 65537, 65538, 1 << 32, 1<<32 + 5, -1 << 31, -1 << 32, math.MinInt, math.MaxInt} {
			refuses(t, m, m.First(), 0, budget, api.ErrRange)
			refuses(t, m, m.First(), 2147483647, budget, api.ErrRange)
		}
	}
}

// R5: what is refused leaves the machine as it was
func TestRefusedLeavesNothing(t *testing.T) {
	x := image("load 1; push I 1; two + I; store 1; end")
	m := machine(t, x)
	for range 3 {
		refuses(t, m, nil, 0, 10, api.ErrShape)
		refuses(t, m, with(len(laid), "1=40000"), 0, 10, api.ErrRange)
		refuses(t, m, with(len(laid), "1=5"), -1, 10, api.ErrRange)
		refuses(t, m, with(len(laid), "1=5"), 0, -1, api.ErrRange)
		holds(t, m, x, with(len(laid), "1=7"), 0, 10)
		if !sameImage(m.Image(), x) || !slices.Equal(m.First(), x.First) {
			t.Error(m.Image())
		}
	}
}

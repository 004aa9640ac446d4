package quad_test

import (
	"math"
	"testing"

	"capstan/api"
	"capstan/quad"
)

// row is a place as the chapter's words have it: its lines, its complex number.
type row struct {
	a, b bool
	unit complex128
}

// rows are the places in the order of their numbers.
var rows = [...]row{
	{false, false, complex(1, 0)},
	{true, false, complex(0, 1)},
	{true, true, complex(-1, 0)},
	{false, true, complex(0, -1)},
}

// noPlaces are numbers beside those of places, and some that are one of them modulo 4, or modulo a power of 2 beyond it.
var noPlaces = []int{-1, -2, -3, -4, -5, 4, 5, 6, 7, 8, 255, 256, 258, 1 << 31, 1<<32 + 1, -1 << 31, math.MinInt, math.MinInt + 1, math.MaxInt - 1, math.MaxInt}

// 11.1
func TestPlaceOfLines(t *testing.T) {
	for n, r := range rows {
		if got := quad.Place(r.a, r.b); got != n {
			t.Errorf("Place(%v, %v): %d, want %d", r.a, r.b, got, n)
		}
	}
}

// 11.1
func TestLinesOfPlaces(t *testing.T) {
	for n, r := range rows {
		if a, b, e := quad.Lines(n); a != r.a || b != r.b || e != api.OK {
			t.Errorf("Lines(%d): %v, %v, %d, want %v, %v", n, a, b, e, r.a, r.b)
		}
	}
}

// 11.1
func TestUnitOfPlaces(t *testing.T) {
	for n, r := range rows {
		if u, e := quad.Unit(n); u != r.unit || e != api.OK {
			t.Errorf("Unit(%d): %v, %d, want %v", n, u, e, r.unit)
		}
	}
}

// 11.1: from the lines to the place and back, and from the place to the lines and back
func TestThereAndBack(t *testing.T) {
	for _, a := range []bool{false, true} {
		for _, b := range []bool{false, true} {
			if a2, b2, e := quad.Lines(quad.Place(a, b)); a2 != a || b2 != b || e != api.OK {
				t.Errorf("%v, %v: back as %v, %v, %d", a, b, a2, b2, e)
			}
		}
	}
	for n := range rows {
		if a, b, _ := quad.Lines(n); quad.Place(a, b) != n {
			t.Errorf("%d: back as %d", n, quad.Place(a, b))
		}
	}
}

// 11.1: what is no place, R5: all else is zero beside the error
func TestNoPlaces(t *testing.T) {
	for _, n := range noPlaces {
		if a, b, e := quad.Lines(n); a || b || e != api.ErrRange {
			t.Errorf("Lines(%d): %v, %v, %d", n, a, b, e)
		}
		if u, e := quad.Unit(n); u != 0 || e != api.ErrRange {
			t.Errorf("Unit(%d): %v, %d", n, u, e)
		}
	}
	for n := -300; n <= 300; n++ {
		_, _, e := quad.Lines(n)
		_, f := quad.Unit(n)
		if is := n >= 0 && n <= 3; is != (e == api.OK) || is != (f == api.OK) {
			t.Errorf("%d: Lines %d, Unit %d", n, e, f)
		}
	}
}

// 11.1: next places differ in one line, those across in both
func TestNeighboursDifferInOneLine(t *testing.T) {
	for n := range rows {
		a, b, _ := quad.Lines(n)
		for apart, want := range []int{0, 1, 2, 1} {
			c, d, _ := quad.Lines((n + apart) % 4)
			differ := 0
			if a != c {
				differ++
			}
			if b != d {
				differ++
			}
			if differ != want {
				t.Errorf("%d and the one %d further differ in %d lines", n, apart, differ)
			}
		}
	}
}

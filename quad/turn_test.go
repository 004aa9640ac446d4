package quad_test

import (
	"math"
	"math/rand"
	"testing"

	"capstan/api"
	"capstan/quad"
)

// told is what is told of a step from a place to a place.
type told struct {
	step int
	e    api.Errno
}

// sixteen has what is told from each place (row) to each place, written out.
var sixteen = [4][4]told{
	{{0, api.OK}, {1, api.OK}, {0, api.ErrLine}, {-1, api.OK}},
	{{-1, api.OK}, {0, api.OK}, {1, api.OK}, {0, api.ErrLine}},
	{{0, api.ErrLine}, {-1, api.OK}, {0, api.OK}, {1, api.OK}},
	{{1, api.OK}, {0, api.ErrLine}, {-1, api.OK}, {0, api.OK}},
}

// 11.2
func TestAllSteps(t *testing.T) {
	for from, row := range sixteen {
		for to, want := range row {
			if step, e := quad.Step(from, to); (told{step, e}) != want {
				t.Errorf("Step(%d, %d): %d, %d, want %v", from, to, step, e, want)
			}
			u, v := rows[from].unit, rows[to].unit
			if step, e := quad.Turn(u, v); (told{step, e}) != want {
				t.Errorf("Turn(%v, %v): %d, %d, want %v", u, v, step, e, want)
			}
		}
	}
}

// 11.2: of what Unit answers Turn tells what Step does of the numbers
func TestTurnOfUnits(t *testing.T) {
	for from := range rows {
		for to := range rows {
			u, _ := quad.Unit(from)
			v, _ := quad.Unit(to)
			step, e := quad.Step(from, to)
			if turn, f := quad.Turn(u, v); turn != step || f != e {
				t.Errorf("%d to %d: %d, %d by the units, %d, %d by the numbers", from, to, turn, f, step, e)
			}
		}
	}
}

// bothSigns answers u with each of its parts that is nought as 0 and as -0.
func bothSigns(u complex128) []complex128 {
	least := math.Copysign(0, -1)
	if real(u) == 0 {
		return []complex128{complex(0, imag(u)), complex(least, imag(u))}
	}
	return []complex128{complex(real(u), 0), complex(real(u), least)}
}

// 11.2: the sign of nought is free
func TestSignOfNought(t *testing.T) {
	for from, row := range sixteen {
		for to, want := range row {
			for _, u := range bothSigns(rows[from].unit) {
				for _, v := range bothSigns(rows[to].unit) {
					if step, e := quad.Turn(u, v); (told{step, e}) != want {
						t.Errorf("Turn(%v, %v): %d, %d, want %v", u, v, step, e, want)
					}
				}
			}
		}
	}
}

// oddUnits are complex numbers that are no place: beside one, as far from 0 as one, no numbers, without an end.
func oddUnits() []complex128 {
	least, inf, nan := math.Copysign(0, -1), math.Inf(1), math.NaN()
	below, above := math.Nextafter(1, 0), math.Nextafter(1, 2)
	tiny, great := math.SmallestNonzeroFloat64, math.MaxFloat64
	half := math.Sqrt(0.5)
	var l []complex128
	for _, p := range [][2]float64{
		{0, 0}, {0, least}, {least, 0}, {least, least},
		{2, 0}, {0.5, 0}, {1, 1}, {1, -1}, {half, half}, {0.6, 0.8}, {2, 2}, {4, 0},
		{below, 0}, {above, 0}, {1, tiny}, {below, tiny}, {1, 1e-17}, {1 + 1e-9, 0}, {1 - 1e-9, 0}, {tiny, 0}, {great, 0}, {1, great},
		{inf, 0}, {inf, 1}, {1, inf}, {inf, inf}, {inf, -inf},
		{nan, 0}, {nan, 1}, {1, nan}, {nan, nan}, {nan, inf}, {inf, nan},
	} {
		l = append(l, complex(p[0], p[1]), complex(-p[1], p[0]), complex(-p[0], -p[1]), complex(p[1], -p[0]))
	}
	return l
}

// 11.2: what is none of the four, on either side and on both, whatever the other one is; R5
func TestTurnOfNoPlaces(t *testing.T) {
	odd := oddUnits()
	for _, u := range odd {
		for _, r := range rows {
			if step, e := quad.Turn(u, r.unit); step != 0 || e != api.ErrRange {
				t.Errorf("Turn(%v, %v): %d, %d", u, r.unit, step, e)
			}
			if step, e := quad.Turn(r.unit, u); step != 0 || e != api.ErrRange {
				t.Errorf("Turn(%v, %v): %d, %d", r.unit, u, step, e)
			}
		}
		for _, v := range odd {
			if step, e := quad.Turn(u, v); step != 0 || e != api.ErrRange {
				t.Errorf("Turn(%v, %v): %d, %d", u, v, step, e)
			}
		}
	}
}

// 11.2: two that are none of the four, though the one times the other's conjugate is one of them
func TestTurnOfNoPlacesWithAProductThatIsOne(t *testing.T) {
	for _, c := range [][2]complex128{
		{2, 0.5}, {2, 0.5i}, {2, -0.5}, {2, -0.5i}, {0.5, 2}, {4i, 0.25i}, {4i, -0.25i}, {-8, 0.125i},
		{complex(1, 1), complex(0.5, 0.5)}, {complex(1, 1), complex(-0.5, 0.5)}, {complex(1, 1), complex(-0.5, -0.5)},
	} {
		if step, e := quad.Turn(c[0], c[1]); step != 0 || e != api.ErrRange {
			t.Errorf("Turn(%v, %v): %d, %d", c[0], c[1], step, e)
		}
	}
}

// 11.2: numbers that are no place, on either side and on both; R5
func TestStepOfNoPlaces(t *testing.T) {
	for _, n := range noPlaces {
		for place := range rows {
			if step, e := quad.Step(n, place); step != 0 || e != api.ErrRange {
				t.Errorf("Step(%d, %d): %d, %d", n, place, step, e)
			}
			if step, e := quad.Step(place, n); step != 0 || e != api.ErrRange {
				t.Errorf("Step(%d, %d): %d, %d", place, n, step, e)
			}
		}
		for _, m := range noPlaces {
			if step, e := quad.Step(n, m); step != 0 || e != api.ErrRange {
				t.Errorf("Step(%d, %d): %d, %d", n, m, step, e)
			}
		}
	}
}

// 11.2, R1: what is no place is told ahead of a jump, though it stands across
func TestNoPlaceAheadOfAJump(t *testing.T) {
	for _, c := range [][2]complex128{{2, -2}, {1, -2}, {-2, 1}, {2i, -2i}, {1i, -2i}, {complex(1, 1), complex(-1, -1)}, {complex(math.Inf(1), 0), complex(math.Inf(-1), 0)}} {
		if step, e := quad.Turn(c[0], c[1]); step != 0 || e != api.ErrRange {
			t.Errorf("Turn(%v, %v): %d, %d", c[0], c[1], step, e)
		}
	}
	for _, c := range [][2]int{{4, 2}, {2, 4}, {-1, 1}, {1, -1}, {5, 7}, {-2, 0}, {0, 6}, {math.MinInt, 2}, {1, math.MaxInt}} {
		if step, e := quad.Step(c[0], c[1]); step != 0 || e != api.ErrRange {
			t.Errorf("Step(%d, %d): %d, %d", c[0], c[1], step, e)
		}
	}
}

// P1, R7: whatever bits a complex number has, Turn ends, tells the same twice, and ErrRange of all but the four
func TestTurnOfAnyBits(t *testing.T) {
	r := rand.New(rand.NewSource(11))
	bits := func() complex128 {
		return complex(math.Float64frombits(r.Uint64()), math.Float64frombits(r.Uint64()))
	}
	for range 100000 {
		u, v := bits(), rows[r.Intn(4)].unit
		if r.Intn(2) == 0 {
			u, v = v, u
		}
		step, e := quad.Turn(u, v)
		if again, f := quad.Turn(u, v); step != 0 || e != api.ErrRange || again != step || f != e {
			t.Fatalf("Turn(%v, %v): %d, %d, then %d, %d", u, v, step, e, again, f)
		}
	}
}

// the chapter's example
func TestExample(t *testing.T) {
	places := []int{quad.Place(false, false), quad.Place(true, false), quad.Place(true, true), quad.Place(false, true), quad.Place(false, false)}
	for i := range 4 {
		if step, e := quad.Step(places[i], places[i+1]); step != 1 || e != api.OK {
			t.Errorf("step %d: %d, %d", i, step, e)
		}
	}
	if steps, jumps, e := quad.Count(places); steps != 4 || jumps != 0 || e != api.OK {
		t.Error(steps, jumps, e)
	}
	if step, e := quad.Step(quad.Place(true, false), quad.Place(false, true)); step != 0 || e != api.ErrLine {
		t.Error(step, e)
	}
}

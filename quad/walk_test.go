package quad_test

import (
	"math"
	"math/rand"
	"slices"
	"testing"

	"capstan/api"
	"capstan/quad"
)

// noSteps are numbers that are no step, and some that are one modulo 4, or modulo a power of 2 beyond it.
var noSteps = []int{2, -2, 3, -3, 4, -4, 5, -5, 255, 256, 257, 1 << 31, 1 << 32, 1<<32 + 1, math.MinInt, math.MinInt + 1, math.MaxInt - 1, math.MaxInt}

// walked answers where a walk comes by, reckoned by numbers alone.
func walked(from int, steps []int) []int {
	var l []int
	for _, s := range steps {
		from = (from + s + 4) % 4
		l = append(l, from)
	}
	return l
}

// counted answers the steps and jumps of places, looked up in the table that is written out.
func counted(places []int) (steps, jumps int) {
	for i := 1; i < len(places); i++ {
		t := sixteen[places[i-1]][places[i]]
		steps += t.step
		if t.e == api.ErrLine {
			jumps++
		}
	}
	return steps, jumps
}

func sum(l []int) int {
	n := 0
	for _, s := range l {
		n += s
	}
	return n
}

// each goes through all lists of up to most of the numbers from least to greatest.
func each(most, least, greatest int, do func(l []int)) {
	var on func(l []int)
	on = func(l []int) {
		do(slices.Clone(l))
		if len(l) == most {
			return
		}
		for n := least; n <= greatest; n++ {
			on(append(l, n))
		}
	}
	on(nil)
}

// randomly answers as many numbers from least to greatest.
func randomly(r *rand.Rand, many, least, greatest int) []int {
	l := make([]int, many)
	for i := range l {
		l[i] = least + r.Intn(greatest-least+1)
	}
	return l
}

// 11.3
func TestWalks(t *testing.T) {
	for _, c := range []struct {
		from  int
		steps []int
		want  []int
	}{
		{0, nil, nil}, {3, nil, nil}, {2, []int{}, nil},
		{0, []int{1}, []int{1}}, {0, []int{-1}, []int{3}}, {0, []int{0}, []int{0}},
		{3, []int{1}, []int{0}}, {3, []int{-1}, []int{2}}, {3, []int{0}, []int{3}},
		{0, []int{1, 1, 1, 1, 1}, []int{1, 2, 3, 0, 1}},
		{0, []int{-1, -1, -1, -1, -1}, []int{3, 2, 1, 0, 3}},
		{2, []int{0, 0, 0}, []int{2, 2, 2}},
		{1, []int{1, -1, 0, 1, 1, -1}, []int{2, 1, 1, 2, 3, 2}},
	} {
		if l, e := quad.Walk(c.from, c.steps); !slices.Equal(l, c.want) || e != api.OK {
			t.Errorf("Walk(%d, %v): %v, %d, want %v", c.from, c.steps, l, e, c.want)
		}
	}
}

// 11.3, 11.4: all walks of up to six steps, from all places
func TestAllShortWalks(t *testing.T) {
	each(6, -1, 1, func(steps []int) {
		for from := range rows {
			l, e := quad.Walk(from, steps)
			if !slices.Equal(l, walked(from, steps)) || e != api.OK {
				t.Fatalf("Walk(%d, %v): %v, %d", from, steps, l, e)
			}
			countsToItsSteps(t, from, steps)
			isUndone(t, from, steps)
		}
	})
}

// 11.3, 11.4: round and round in both directions, and hither and thither
func TestLongWalks(t *testing.T) {
	const many = 100001
	r := rand.New(rand.NewSource(3))
	for from := range rows {
		for _, steps := range [][]int{slices.Repeat([]int{1}, many), slices.Repeat([]int{-1}, many), slices.Repeat([]int{0}, many), randomly(r, many, -1, 1), randomly(r, many, 0, 1), randomly(r, many, -1, 0)} {
			l, e := quad.Walk(from, steps)
			if !slices.Equal(l, walked(from, steps)) || e != api.OK {
				t.Fatalf("from %d, %v ..: wrong, %d", from, steps[:5], e)
			}
			countsToItsSteps(t, from, steps)
			isUndone(t, from, steps)
		}
	}
}

// 11.3: a start that is no place, with and without steps, right ones and wrong ones; R5
func TestWalkFromNoPlace(t *testing.T) {
	for _, from := range noPlaces {
		for _, steps := range [][]int{nil, {}, {0}, {1}, {-1}, {1, 1, -1}, {2}, {math.MinInt}} {
			if l, e := quad.Walk(from, steps); len(l) != 0 || e != api.ErrRange {
				t.Errorf("Walk(%d, %v): %v, %d", from, steps, l, e)
			}
		}
	}
}

// 11.3: what is no step, at the front, within, at the end, alone; R5
func TestWalkOfNoSteps(t *testing.T) {
	for _, odd := range noSteps {
		for from := range rows {
			for _, steps := range [][]int{{odd}, {odd, 1, 1}, {1, odd, 0}, {1, -1, odd}, {odd, odd}, {0, 0, 0, 0, odd}} {
				if l, e := quad.Walk(from, steps); len(l) != 0 || e != api.ErrRange {
					t.Errorf("Walk(%d, %v): %v, %d", from, steps, l, e)
				}
			}
		}
	}
	for n := -300; n <= 300; n++ {
		if _, e := quad.Walk(0, []int{n}); (e == api.OK) != (n >= -1 && n <= 1) {
			t.Errorf("a step of %d: %d", n, e)
		}
	}
}

// 11.3
func TestCounts(t *testing.T) {
	for _, c := range []struct {
		places       []int
		steps, jumps int
	}{
		{nil, 0, 0}, {[]int{}, 0, 0},
		{[]int{0}, 0, 0}, {[]int{1}, 0, 0}, {[]int{2}, 0, 0}, {[]int{3}, 0, 0},
		{[]int{0, 1}, 1, 0}, {[]int{1, 0}, -1, 0}, {[]int{3, 0}, 1, 0}, {[]int{0, 3}, -1, 0}, {[]int{2, 2}, 0, 0},
		{[]int{0, 2}, 0, 1}, {[]int{2, 0}, 0, 1}, {[]int{1, 3}, 0, 1}, {[]int{3, 1}, 0, 1},
		{[]int{0, 1, 2, 3, 0, 1}, 5, 0}, {[]int{1, 0, 3, 2, 1, 0}, -5, 0},
		{[]int{0, 2, 0, 2, 0}, 0, 4}, {[]int{0, 1, 3, 0, 2, 1}, 1, 2}, {[]int{2, 1, 0, 2, 2, 1}, -3, 1},
	} {
		if steps, jumps, e := quad.Count(c.places); steps != c.steps || jumps != c.jumps || e != api.OK {
			t.Errorf("Count(%v): %d, %d, %d, want %d, %d", c.places, steps, jumps, e, c.steps, c.jumps)
		}
	}
}

// 11.3: all lists of up to six places
func TestAllShortCounts(t *testing.T) {
	each(6, 0, 3, func(places []int) {
		wantSteps, wantJumps := counted(places)
		if steps, jumps, e := quad.Count(places); steps != wantSteps || jumps != wantJumps || e != api.OK {
			t.Fatalf("Count(%v): %d, %d, %d, want %d, %d", places, steps, jumps, e, wantSteps, wantJumps)
		}
	})
}

// 11.3
func TestLongCounts(t *testing.T) {
	const many = 100001
	r := rand.New(rand.NewSource(5))
	for _, places := range [][]int{randomly(r, many, 0, 3), slices.Repeat([]int{0, 2}, many), slices.Repeat([]int{0, 1, 2, 3}, many), slices.Repeat([]int{3, 2, 1, 0}, many), slices.Repeat([]int{0, 1, 3}, many)} {
		wantSteps, wantJumps := counted(places)
		if steps, jumps, e := quad.Count(places); steps != wantSteps || jumps != wantJumps || e != api.OK {
			t.Errorf("%v ..: %d, %d, %d, want %d, %d", places[:6], steps, jumps, e, wantSteps, wantJumps)
		}
	}
}

// 11.3: what is no place, at the front, within, at the end, alone, behind steps and jumps; R5
func TestCountOfNoPlaces(t *testing.T) {
	for _, odd := range noPlaces {
		for _, places := range [][]int{{odd}, {odd, 1, 2}, {1, odd, 2}, {1, 2, odd}, {odd, odd}, {0, 2, odd}, {0, 1, 2, 0, 2, 3, odd}} {
			if steps, jumps, e := quad.Count(places); steps != 0 || jumps != 0 || e != api.ErrRange {
				t.Errorf("Count(%v): %d, %d, %d", places, steps, jumps, e)
			}
		}
	}
}

// countsToItsSteps holds 11.4's first sentence.
func countsToItsSteps(t *testing.T, from int, steps []int) {
	t.Helper()
	l, e := quad.Walk(from, steps)
	n, jumps, f := quad.Count(append([]int{from}, l...))
	if n != sum(steps) || jumps != 0 || e != api.OK || f != api.OK {
		t.Fatalf("a walk from %d of %d steps, %d in all: counted %d, %d, %d, %d", from, len(steps), sum(steps), n, jumps, e, f)
	}
}

// isUndone holds 11.4's second sentence: the steps back, the last one first, come by the same places in turn.
func isUndone(t *testing.T, from int, steps []int) {
	t.Helper()
	there, e := quad.Walk(from, steps)
	by := append([]int{from}, there...)
	slices.Reverse(by)
	back := make([]int, len(steps))
	for i, s := range steps {
		back[len(steps)-1-i] = -s
	}
	again, f := quad.Walk(by[0], back)
	if !slices.Equal(again, by[1:]) || e != api.OK || f != api.OK {
		t.Fatalf("a walk from %d of %d steps is not undone: %d, %d", from, len(steps), e, f)
	}
}

// 11.4: a step back undoes a step, of places by numbers and by complex numbers
func TestStepsBack(t *testing.T) {
	for from := range rows {
		for to := range rows {
			step, e := quad.Step(from, to)
			if back, f := quad.Step(to, from); back != -step || f != e {
				t.Errorf("%d to %d: %d, %d; back: %d, %d", from, to, step, e, back, f)
			}
			turn, e := quad.Turn(rows[from].unit, rows[to].unit)
			if back, f := quad.Turn(rows[to].unit, rows[from].unit); back != -turn || f != e {
				t.Errorf("%d to %d: %d, %d; back: %d, %d", from, to, turn, e, back, f)
			}
			if e != api.OK {
				continue
			}
			if l, e := quad.Walk(from, []int{step, -step}); !slices.Equal(l, []int{to, from}) || e != api.OK {
				t.Errorf("%d to %d and back: %v, %d", from, to, l, e)
			}
		}
	}
}

// R4: what is handed in stays, spare room too, and what lies behind its length is not read
func TestArgumentsStay(t *testing.T) {
	for _, l := range [][]int{{}, {0}, {1, 0, 1, 1}, {1, 1, 2}, {-1, 0, 1}, {2, 0, 3, 1}, {7, 0}} {
		room := append(slices.Clone(l), 99, -99, 99)
		given := room[:len(l)]
		before := slices.Clone(room)
		walk, e := quad.Walk(2, given)
		steps, jumps, f := quad.Count(given)
		if !slices.Equal(room, before) {
			t.Errorf("%v is changed: %v", before, room)
		}
		walk2, e2 := quad.Walk(2, slices.Clone(l))
		steps2, jumps2, f2 := quad.Count(slices.Clone(l))
		if !slices.Equal(walk, walk2) || e != e2 || steps != steps2 || jumps != jumps2 || f != f2 {
			t.Errorf("%v with spare room is told otherwise: %v, %d, %d, %d, %d", l, walk, e, steps, jumps, f)
		}
	}
}

// R4, R7: an answer is the caller's own, spare room too
func TestAnswersAreNew(t *testing.T) {
	for _, steps := range [][]int{{1}, {0, 0}, {1, 0, 1}, {1, -1, 1, 1, 0}} {
		given := slices.Clone(steps)
		first, _ := quad.Walk(0, given)
		want := slices.Clone(first)
		other, _ := quad.Walk(0, given)
		first = first[:cap(first)]
		for i := range first {
			first[i] = 77
		}
		if !slices.Equal(other, want) || !slices.Equal(given, steps) {
			t.Errorf("a change of an answer changes %v, %v", other, given)
		}
		if again, e := quad.Walk(0, given); !slices.Equal(again, want) || e != api.OK {
			t.Errorf("Walk(0, %v): %v, %d behind a change, want %v", steps, again, e, want)
		}
		for i := range given {
			given[i] = 1
		}
		if !slices.Equal(other, want) {
			t.Errorf("a change of the steps changes the answer: %v", other)
		}
	}
}

// P1, R7: any numbers at all, right and wrong ones mixed, twice
func TestAnyNumbers(t *testing.T) {
	r := rand.New(rand.NewSource(7))
	odd := append(slices.Clone(noPlaces), noSteps...)
	for range 20000 {
		l := randomly(r, r.Intn(8), -1, 3)
		if len(l) > 0 && r.Intn(4) == 0 {
			l[r.Intn(len(l))] = odd[r.Intn(len(odd))]
		}
		from := r.Intn(6) - 1
		walk, e := quad.Walk(from, l)
		right := from >= 0 && from <= 3 && !slices.ContainsFunc(l, func(n int) bool { return n < -1 || n > 1 })
		if right != (e == api.OK) || !right && (len(walk) != 0 || e != api.ErrRange) {
			t.Fatalf("Walk(%d, %v): %v, %d", from, l, walk, e)
		}
		steps, jumps, f := quad.Count(l)
		right = !slices.ContainsFunc(l, func(n int) bool { return n < 0 || n > 3 })
		if right != (f == api.OK) || !right && (steps != 0 || jumps != 0 || f != api.ErrRange) {
			t.Fatalf("Count(%v): %d, %d, %d", l, steps, jumps, f)
		}
		walk2, e2 := quad.Walk(from, l)
		steps2, jumps2, f2 := quad.Count(l)
		if !slices.Equal(walk, walk2) || e != e2 || steps != steps2 || jumps != jumps2 || f != f2 {
			t.Fatalf("%d, %v: told otherwise the second time", from, l)
		}
	}
}

package block_test

import (
	"math"
	"math/rand"
	"slices"
	"testing"

	"capstan/api"
	"capstan/block"
)

// roomy answers the list with spare room behind it, and the whole of that.
func roomy(l []int64) (given, whole []int64) {
	whole = append(slices.Clone(l), 99, -99, 99)
	return whole[:len(l)], whole
}

// sameCalls answers whether the calls are the same, In by In.
func sameCalls(a, b []block.Call) bool {
	return slices.EqualFunc(a, b, func(x, y block.Call) bool { return x.Now == y.Now && slices.Equal(x.In, y.In) })
}

func copied(calls []block.Call) []block.Call {
	l := slices.Clone(calls)
	for i := range l {
		l[i].In = slices.Clone(l[i].In)
	}
	return l
}

// R4: cells stay, spare room too, and what lies behind their length is not read
func TestCellsStay(t *testing.T) {
	for _, k := range kinds {
		k.eachCells(func(cells []int64) {
			given, whole := roomy(cells)
			before := slices.Clone(whole)
			got, e := block.Step(k.kind, given, 5)
			if !slices.Equal(whole, before) || !slices.Equal(got, k.behind(cells, 5)) || e != api.OK {
				t.Fatalf("%s %v: %v behind a step, %v, %d", k.name, before, whole, got, e)
			}
		})
		// as many as are asked for, only with those behind the length
		short, whole := roomy(k.zero()[1:])
		before := slices.Clone(whole)
		refusesStep(t, k.kind, short, 0, api.ErrShape)
		refusesRun(t, k.kind, short, nil, api.ErrShape)
		if !slices.Equal(whole, before) {
			t.Errorf("%s: %v behind a refusal", k.name, whole)
		}
	}
}

// R4: cells, calls and their In stay, spare room too, whether a call is refused or not
func TestCallsStay(t *testing.T) {
	r := rand.New(rand.NewSource(4))
	for range 5000 {
		k := kinds[r.Intn(len(kinds))]
		cells, whole := roomy(k.anyCells(r))
		wholeBefore := slices.Clone(whole)
		calls := k.anyCalls(r, 6)
		if len(calls) > 0 && r.Intn(3) == 0 {
			calls[len(calls)-1].Now = -1
		}
		var ins, insBefore [][]int64
		for i := range calls {
			given, room := roomy(calls[i].In)
			calls[i].In = given
			ins = append(ins, room)
			insBefore = append(insBefore, slices.Clone(room))
		}
		room := append(slices.Clone(calls), block.Call{Now: -7, In: []int64{7}})
		before := copied(room)
		got, e := block.Run(k.kind, cells, room[:len(calls)])
		if !slices.Equal(whole, wholeBefore) || !sameCalls(room, before) || !slices.EqualFunc(ins, insBefore, slices.Equal[[]int64]) {
			t.Fatalf("%s: changed behind a run of %v, %v", k.name, wholeBefore, before)
		}
		again, f := block.Run(k.kind, slices.Clone(cells), copied(calls))
		if !slices.Equal(got, again) || e != f {
			t.Fatalf("%s: with spare room %v, %d, without %v, %d", k.name, got, e, again, f)
		}
	}
}

// spoil writes over all of a list, spare room too.
func spoil(l []int64) {
	l = l[:cap(l)]
	for i := range l {
		l[i] = 77
	}
}

// R4, R7: an answer is the caller's own: neither an argument nor another answer hangs on it, nor it on them
func TestAnswersAreNew(t *testing.T) {
	r := rand.New(rand.NewSource(6))
	for _, k := range kinds {
		for _, many := range []int{0, 1, 2, 5} {
			cells := k.anyCells(r)
			calls := make([]block.Call, many)
			for i := range calls {
				calls[i] = block.Call{Now: int64(i), In: make([]int64, k.set)}
			}
			cellsBefore, callsBefore := slices.Clone(cells), copied(calls)
			step, _ := block.Step(k.kind, cells, 5)
			run, _ := block.Run(k.kind, cells, calls)
			wantStep, wantRun := slices.Clone(step), slices.Clone(run)
			otherStep, _ := block.Step(k.kind, cells, 5)
			otherRun, _ := block.Run(k.kind, cells, calls)
			spoil(otherStep)
			spoil(otherRun)
			if !slices.Equal(cells, cellsBefore) || !sameCalls(calls, callsBefore) || !slices.Equal(step, wantStep) || !slices.Equal(run, wantRun) {
				t.Errorf("%s, %d calls: a change of an answer changes others", k.name, many)
			}
			spoil(cells)
			for _, c := range calls {
				spoil(c.In)
			}
			if !slices.Equal(step, wantStep) || !slices.Equal(run, wantRun) {
				t.Errorf("%s, %d calls: a change of an argument changes an answer", k.name, many)
			}
			againStep, _ := block.Step(k.kind, cellsBefore, 5)
			againRun, _ := block.Run(k.kind, cellsBefore, callsBefore)
			if !slices.Equal(againStep, wantStep) || !slices.Equal(againRun, wantRun) {
				t.Errorf("%s, %d calls: told otherwise the second time", k.name, many)
			}
		}
	}
}

// wild answers a number that is mostly small, and at times any.
func wild(r *rand.Rand) int64 {
	switch r.Intn(12) {
	case 0:
		return int64(r.Uint64())
	case 1:
		return []int64{math.MinInt64, math.MaxInt64, lowest, highest, 32767, -32768}[r.Intn(6)]
	}
	return int64(r.Intn(2))
}

func wildly(r *rand.Rand, many int) []int64 {
	l := make([]int64, many)
	for i := range l {
		l[i] = wild(r)
	}
	return l
}

// P1, R5, R7: any numbers at all; what is answered is of the kind's shape and fits, or nothing is beside the error
func TestAnyNumbers(t *testing.T) {
	r := rand.New(rand.NewSource(8))
	for range 200000 {
		kind := r.Intn(13) - 1
		cells := wildly(r, []int{3, 6, 3, 6, 3, 6, r.Intn(9)}[r.Intn(7)])
		calls := make([]block.Call, r.Intn(4))
		for i := range calls {
			calls[i] = block.Call{Now: wild(r), In: wildly(r, r.Intn(4))}
		}
		now := wild(r)
		step, e := block.Step(kind, cells, now)
		holdAnswer(t, kind, step, e)
		run, f := block.Run(kind, cells, calls)
		holdAnswer(t, kind, run, f)
		step2, e2 := block.Step(kind, cells, now)
		run2, f2 := block.Run(kind, cells, calls)
		if !slices.Equal(step, step2) || e != e2 || !slices.Equal(run, run2) || f != f2 {
			t.Fatalf("%d, %v, %d, %v: told otherwise the second time", kind, cells, now, calls)
		}
	}
}

// holdAnswer holds that an answer can be handed in again, or is nothing beside one of the chapter's errors.
func holdAnswer(t *testing.T, kind int, cells []int64, e api.Errno) {
	t.Helper()
	if e == api.OK {
		if _, f := block.Run(kind, cells, nil); f != api.OK {
			t.Fatalf("kind %d: %v is answered, and refused: %d", kind, cells, f)
		}
		return
	}
	if len(cells) != 0 || e != api.ErrBlock && e != api.ErrShape && e != api.ErrRange {
		t.Fatalf("kind %d: %v, %d", kind, cells, e)
	}
}

package block_test

import (
	"math"
	"slices"
	"testing"

	"capstan/api"
	"capstan/block"
)

// noKinds are numbers that are no kind of block, and some that are one modulo a power of 2, or as a variable's type.
var noKinds = []int{0, -1, -2, -10, 11, 12, 100, 101, 110, 111, 256, 257, 1 << 16, 1<<16 + 1, 1 << 32, 1<<32 + 1, math.MinInt, math.MinInt + 1, math.MinInt + 10, math.MaxInt - 1, math.MaxInt}

// noTimes are numbers that are no now, and some that are one modulo a power of 2.
var noTimes = []int64{-1, -2, lowest, lowest - 1, highest + 1, highest + 2, 1 << 32, 1<<32 + 5, math.MinInt64, math.MinInt64 + 1, math.MaxInt64 - 1, math.MaxInt64}

// noFit answers numbers that do not fit a type, those just beside its edges ahead.
func noFit(typ int) []int64 {
	far := []int64{math.MinInt64, math.MaxInt64, 1 << 32, 1<<32 + 1, -1 << 32, 1 << 40}
	switch typ {
	case api.TBool:
		return append([]int64{-1, 2, 3, 256, 257, 65536, 65537}, far...)
	case api.TInt:
		return append([]int64{-32769, 32768, 65535, 65536, 65537, -65536, lowest, highest}, far...)
	}
	return append([]int64{lowest - 1, highest + 1}, far...)
}

// zero answers as many cells as the kind has fields, all 0.
func (k kindRow) zero() []int64 {
	return make([]int64, len(k.names))
}

// refusesStep holds that Step tells e of the call, and nothing beside it.
func refusesStep(t *testing.T, kind int, cells []int64, now int64, e api.Errno) {
	t.Helper()
	if got, f := block.Step(kind, cells, now); len(got) != 0 || f != e {
		t.Errorf("Step(%d, %v, %d): %v, %d, want %d", kind, cells, now, got, f, e)
	}
}

// refusesRun holds that Run tells e of the calls, and nothing beside it.
func refusesRun(t *testing.T, kind int, cells []int64, calls []block.Call, e api.Errno) {
	t.Helper()
	if got, f := block.Run(kind, cells, calls); len(got) != 0 || f != e {
		t.Errorf("Run(%d, %v, %v): %v, %d, want %d", kind, cells, calls, got, f, e)
	}
}

// 12.1, 12.2: kinds that are none, ahead of whatever else is wrong
func TestNoKinds(t *testing.T) {
	for _, kind := range noKinds {
		for _, cells := range [][]int64{nil, {}, {0}, make([]int64, 3), make([]int64, 6), {2, 2, 2, 2, 2, 2}, make([]int64, 7)} {
			for _, now := range []int64{0, 5, -1, highest + 1} {
				refusesStep(t, kind, cells, now, api.ErrBlock)
			}
			for _, calls := range [][]block.Call{nil, {{}}, {{Now: -1}}, {{In: make([]int64, 9)}}} {
				refusesRun(t, kind, cells, calls, api.ErrBlock)
			}
		}
	}
	for kind := -300; kind <= 300; kind++ {
		_, e := block.Step(kind, nil, 0)
		_, f := block.Run(kind, nil, nil)
		if is := kind >= 1 && kind <= 10; is != (e == api.ErrShape) || is != (f == api.ErrShape) || is == (e == api.ErrBlock) || is == (f == api.ErrBlock) {
			t.Errorf("kind %d: %d, %d", kind, e, f)
		}
	}
}

// 12.1, 12.2: cells too few, too many, none, ahead of cells that do not fit and of a now that is none
func TestCellsOfAnotherShape(t *testing.T) {
	for _, k := range kinds {
		for many := range 14 {
			if many == len(k.names) {
				continue
			}
			for _, cells := range [][]int64{make([]int64, many), slices.Repeat([]int64{2}, many), slices.Repeat([]int64{math.MinInt64}, many)} {
				for _, now := range []int64{0, 5, -1, highest + 1} {
					refusesStep(t, k.kind, cells, now, api.ErrShape)
				}
				for _, calls := range [][]block.Call{nil, {{}}, {{Now: -1}}, {{In: []int64{2}}}} {
					refusesRun(t, k.kind, cells, calls, api.ErrShape)
				}
			}
		}
		refusesStep(t, k.kind, nil, 0, api.ErrShape)
		refusesStep(t, k.kind, make([]int64, 100000), 0, api.ErrShape)
		if _, e := block.Step(k.kind, k.zero(), 0); e != api.OK {
			t.Errorf("%s of noughts: %d", k.name, e)
		}
	}
}

// 12.1, 12.2: each field of each kind, just within its type's edges and outside of them
func TestCellsThatDoNotFit(t *testing.T) {
	for _, k := range kinds {
		for i, typ := range k.types {
			for _, n := range noFit(typ) {
				cells := k.zero()
				cells[i] = n
				for _, now := range []int64{0, 5, -1} {
					refusesStep(t, k.kind, cells, now, api.ErrRange)
				}
				refusesRun(t, k.kind, cells, nil, api.ErrRange)
				refusesRun(t, k.kind, cells, []block.Call{{}}, api.ErrRange)
			}
			for _, n := range edgesOf(typ) {
				cells := k.zero()
				cells[i] = n
				if got, e := block.Step(k.kind, cells, 0); len(got) != len(cells) || e != api.OK {
					t.Errorf("%s with %s %d: %v, %d", k.name, k.names[i], n, got, e)
				}
				if got, e := block.Run(k.kind, cells, nil); !slices.Equal(got, cells) || e != api.OK {
					t.Errorf("%s with %s %d, no call: %v, %d", k.name, k.names[i], n, got, e)
				}
			}
		}
	}
}

// 12.1, 12.2: now at its edges and outside of them
func TestTimes(t *testing.T) {
	for _, k := range kinds {
		for _, now := range noTimes {
			refusesStep(t, k.kind, k.zero(), now, api.ErrRange)
			refusesRun(t, k.kind, k.zero(), []block.Call{{Now: now}}, api.ErrRange)
		}
		for _, now := range []int64{0, 1, highest - 1, highest} {
			if got, e := block.Step(k.kind, k.zero(), now); len(got) != len(k.names) || e != api.OK {
				t.Errorf("%s at %d: %v, %d", k.name, now, got, e)
			}
			if got, e := block.Run(k.kind, k.zero(), []block.Call{{Now: now}}); len(got) != len(k.names) || e != api.OK {
				t.Errorf("%s, a call at %d: %v, %d", k.name, now, got, e)
			}
		}
	}
}

// 12.2: as many values as may be set, one more, far more; values that do not fit, each of them
func TestRunOfValues(t *testing.T) {
	for _, k := range kinds {
		for many := range k.set + 1 {
			in := make([]int64, many)
			for i := range in {
				in[i] = edgesOf(k.types[i])[0]
			}
			if got, e := block.Run(k.kind, k.zero(), []block.Call{{In: in}}); !slices.Equal(got, k.ran(k.zero(), []block.Call{{In: in}})) || e != api.OK {
				t.Errorf("%s with %v: %v, %d", k.name, in, got, e)
			}
		}
		for _, many := range []int{k.set + 1, k.set + 2, len(k.names), len(k.names) + 1, 1000} {
			refusesRun(t, k.kind, k.zero(), []block.Call{{In: make([]int64, many)}}, api.ErrShape)
		}
		for i := range k.set {
			for _, n := range noFit(k.types[i]) {
				for many := i + 1; many <= k.set; many++ {
					in := make([]int64, many)
					in[i] = n
					refusesRun(t, k.kind, k.zero(), []block.Call{{In: in}}, api.ErrRange)
				}
			}
		}
	}
}

// 12.2: of the cells that may not be set none is, and those beyond In stay as they were
func TestRunSetsTheFirstOnes(t *testing.T) {
	for _, c := range []struct {
		kind  int
		cells []int64
		in    []int64
		want  []int64
	}{
		{api.BTon, []int64{0, 5, 1, 3, 2, 1}, nil, []int64{0, 5, 0, 0, 2, 0}},
		{api.BTon, []int64{0, 5, 1, 3, 2, 1}, []int64{}, []int64{0, 5, 0, 0, 2, 0}},
		{api.BTon, []int64{0, 5, 1, 3, 2, 1}, []int64{1}, []int64{1, 5, 1, 5, 2, 1}},
		{api.BTon, []int64{0, 5, 1, 3, 2, 1}, []int64{1, 9}, []int64{1, 9, 0, 7, 2, 1}},
		{api.BCtd, []int64{1, 0, 5, 0, 3, 0}, []int64{0}, []int64{0, 0, 5, 0, 3, 0}},
		{api.BCtd, []int64{1, 0, 5, 0, 3, 0}, []int64{0, 1}, []int64{0, 1, 5, 0, 5, 0}},
		{api.BCtd, []int64{1, 0, 5, 0, 3, 0}, []int64{0, 1, 8}, []int64{0, 1, 8, 0, 8, 0}},
		{api.BCtu, []int64{0, 0, 5, 0, 3, 0}, []int64{1, 0, 4}, []int64{1, 0, 4, 1, 4, 1}},
		{api.BRtrig, []int64{0, 0, 0}, []int64{1}, []int64{1, 1, 1}},
		{api.BFtrig, []int64{1, 0, 1}, []int64{0}, []int64{0, 1, 0}},
		{api.BSr, []int64{1, 0, 0}, []int64{0, 1}, []int64{0, 1, 0}},
		{api.BRs, []int64{0, 0, 0}, []int64{1}, []int64{1, 0, 1}},
		{api.BQuad, []int64{0, 0, 0, 7, 0, 1}, []int64{1}, []int64{1, 0, 0, 8, 0, 2}},
		{api.BQuad, []int64{0, 0, 0, 7, 0, 1}, []int64{1, 1}, []int64{1, 1, 0, 7, 1, 3}},
		{api.BQuad, []int64{0, 0, 0, 7, 0, 1}, []int64{1, 1, 1}, []int64{1, 1, 1, 0, 0, 3}},
	} {
		if got, e := block.Run(c.kind, c.cells, []block.Call{{Now: 9, In: c.in}}); !slices.Equal(got, c.want) || e != api.OK {
			t.Errorf("kind %d, %v with %v: %v, %d, want %v", c.kind, c.cells, c.in, got, e, c.want)
		}
	}
}

// 12.2: no call: the cells as they are
func TestRunOfNoCall(t *testing.T) {
	for _, k := range kinds {
		k.eachCells(func(cells []int64) {
			for _, calls := range [][]block.Call{nil, {}} {
				if got, e := block.Run(k.kind, cells, calls); !slices.Equal(got, cells) || e != api.OK {
					t.Fatalf("%s %v: %v, %d", k.name, cells, got, e)
				}
			}
		})
	}
}

// 12.2: what is refused of the first cells comes ahead of what is refused of a call, even where the call would set what is wrong
func TestFirstCellsAheadOfCalls(t *testing.T) {
	for _, k := range kinds {
		wrong := k.zero()
		wrong[0] = 2
		for _, calls := range [][]block.Call{
			{{In: []int64{1}}}, {{In: []int64{0}}}, {{In: make([]int64, k.set)}},
			{{In: make([]int64, k.set+1)}}, {{Now: -1, In: make([]int64, k.set+1)}}, {{}, {In: make([]int64, 9)}},
		} {
			refusesRun(t, k.kind, wrong, calls, api.ErrRange)
		}
		short := k.zero()[1:]
		for _, calls := range [][]block.Call{{{Now: -1}}, {{In: []int64{2}}}, {{Now: highest + 1, In: []int64{2}}}} {
			refusesRun(t, k.kind, short, calls, api.ErrShape)
		}
	}
}

// 12.2: within a call too many values come ahead of values and a now that may not be; of several calls the first one tells, however many were right ahead of it
func TestFirstCallTells(t *testing.T) {
	for _, k := range kinds {
		right := block.Call{Now: 7, In: make([]int64, k.set)}
		more := block.Call{Now: 7, In: make([]int64, k.set+1)}
		moreAndWrong := block.Call{Now: -1, In: slices.Repeat([]int64{2}, k.set+1)}
		wrong := block.Call{Now: 7, In: []int64{2}}
		late := block.Call{Now: highest + 1}
		for _, ahead := range []int{0, 1, 2, 100} {
			first := slices.Repeat([]block.Call{right}, ahead)
			for _, c := range []struct {
				then []block.Call
				e    api.Errno
			}{
				{[]block.Call{more}, api.ErrShape}, {[]block.Call{moreAndWrong}, api.ErrShape},
				{[]block.Call{wrong}, api.ErrRange}, {[]block.Call{late}, api.ErrRange},
				{[]block.Call{more, wrong}, api.ErrShape}, {[]block.Call{more, late}, api.ErrShape},
				{[]block.Call{wrong, more}, api.ErrRange}, {[]block.Call{late, more}, api.ErrRange},
				{[]block.Call{late, right, moreAndWrong}, api.ErrRange}, {[]block.Call{moreAndWrong, right, late}, api.ErrShape},
				{[]block.Call{wrong, right}, api.ErrRange}, {[]block.Call{more, right}, api.ErrShape},
			} {
				refusesRun(t, k.kind, k.zero(), append(slices.Clone(first), c.then...), c.e)
			}
		}
	}
}

// 12.2: a call at a time ahead of that of the one before is not refused
func TestTimesMayGoBack(t *testing.T) {
	got, e := block.Run(api.BTon, make([]int64, 6), []block.Call{{Now: 9, In: []int64{1, 5}}, {Now: 7}})
	if e != api.OK || !slices.Equal(got, []int64{1, 5, 0, -2, 9, 1}) {
		t.Errorf("%v, %d", got, e)
	}
}

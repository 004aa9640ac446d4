package block_test

import (
	"slices"
	"testing"

	"capstan/api"
	"capstan/block"
)

// 12.1: CTU. The cells: CU, R, PV, Q, CV, M.
func TestCtu(t *testing.T) {
	holdSteps(t, api.BCtu, []stepRow{
		// CU and M in all ways
		{[]int64{0, 0, 9, 0, 3, 0}, 0, []int64{0, 0, 9, 0, 3, 0}},
		{[]int64{0, 0, 9, 0, 3, 1}, 0, []int64{0, 0, 9, 0, 3, 0}},
		{[]int64{1, 0, 9, 0, 3, 0}, 0, []int64{1, 0, 9, 0, 4, 1}},
		{[]int64{1, 0, 9, 0, 3, 1}, 0, []int64{1, 0, 9, 0, 3, 1}},
		// and with R, which counts nothing, but M is CU all the same
		{[]int64{0, 1, 9, 0, 3, 0}, 0, []int64{0, 1, 9, 0, 0, 0}},
		{[]int64{0, 1, 9, 1, 3, 1}, 0, []int64{0, 1, 9, 0, 0, 0}},
		{[]int64{1, 1, 9, 0, 3, 0}, 0, []int64{1, 1, 9, 0, 0, 1}},
		{[]int64{1, 1, 9, 1, -3, 1}, 0, []int64{1, 1, 9, 0, 0, 1}},
		// CV below PV, at it, above it
		{[]int64{1, 0, 5, 1, 3, 0}, 0, []int64{1, 0, 5, 0, 4, 1}},
		{[]int64{1, 0, 5, 0, 4, 0}, 0, []int64{1, 0, 5, 1, 5, 1}},
		{[]int64{1, 0, 5, 0, 5, 0}, 0, []int64{1, 0, 5, 1, 6, 1}},
		{[]int64{0, 0, 5, 0, 6, 0}, 0, []int64{0, 0, 5, 1, 6, 0}},
		// PV 0 and below
		{[]int64{0, 0, 0, 0, 0, 0}, 0, []int64{0, 0, 0, 1, 0, 0}},
		{[]int64{0, 0, 0, 1, -1, 0}, 0, []int64{0, 0, 0, 0, -1, 0}},
		{[]int64{1, 0, 0, 0, -1, 0}, 0, []int64{1, 0, 0, 1, 0, 1}},
		{[]int64{0, 1, -5, 0, -9, 0}, 0, []int64{0, 1, -5, 1, 0, 0}},
		{[]int64{0, 0, -5, 1, -6, 0}, 0, []int64{0, 0, -5, 0, -6, 0}},
		{[]int64{1, 0, -5, 0, -6, 0}, 0, []int64{1, 0, -5, 1, -5, 1}},
		{[]int64{0, 1, 1, 1, 9, 0}, 0, []int64{0, 1, 1, 0, 0, 0}},
		// the edges: it does not wrap
		{[]int64{1, 0, 32767, 0, 32766, 0}, 0, []int64{1, 0, 32767, 1, 32767, 1}},
		{[]int64{1, 0, 32767, 0, 32767, 0}, 0, []int64{1, 0, 32767, 1, 32767, 1}},
		{[]int64{1, 0, -32768, 0, 32767, 0}, 0, []int64{1, 0, -32768, 1, 32767, 1}},
		{[]int64{1, 0, 0, 1, -32768, 0}, 0, []int64{1, 0, 0, 0, -32767, 1}},
		{[]int64{0, 0, -32768, 0, -32768, 0}, 0, []int64{0, 0, -32768, 1, -32768, 0}},
	})
}

// 12.1: CTD. The cells: CD, LD, PV, Q, CV, M.
func TestCtd(t *testing.T) {
	holdSteps(t, api.BCtd, []stepRow{
		// CD and M in all ways
		{[]int64{0, 0, 9, 0, 3, 0}, 0, []int64{0, 0, 9, 0, 3, 0}},
		{[]int64{0, 0, 9, 0, 3, 1}, 0, []int64{0, 0, 9, 0, 3, 0}},
		{[]int64{1, 0, 9, 0, 3, 0}, 0, []int64{1, 0, 9, 0, 2, 1}},
		{[]int64{1, 0, 9, 0, 3, 1}, 0, []int64{1, 0, 9, 0, 3, 1}},
		// and with LD, which counts nothing, but M is CD all the same
		{[]int64{0, 1, 9, 1, 3, 0}, 0, []int64{0, 1, 9, 0, 9, 0}},
		{[]int64{0, 1, 9, 0, 3, 1}, 0, []int64{0, 1, 9, 0, 9, 0}},
		{[]int64{1, 1, 9, 1, 3, 0}, 0, []int64{1, 1, 9, 0, 9, 1}},
		{[]int64{1, 1, 9, 0, -3, 1}, 0, []int64{1, 1, 9, 0, 9, 1}},
		// CV above 0, at it, below it
		{[]int64{1, 0, 5, 1, 2, 0}, 0, []int64{1, 0, 5, 0, 1, 1}},
		{[]int64{1, 0, 5, 0, 1, 0}, 0, []int64{1, 0, 5, 1, 0, 1}},
		{[]int64{1, 0, 5, 0, 0, 0}, 0, []int64{1, 0, 5, 1, -1, 1}},
		{[]int64{0, 0, 5, 0, -1, 0}, 0, []int64{0, 0, 5, 1, -1, 0}},
		// PV 0 and below: loaded, Q is there
		{[]int64{0, 1, 0, 0, 7, 0}, 0, []int64{0, 1, 0, 1, 0, 0}},
		{[]int64{0, 1, -5, 0, 7, 0}, 0, []int64{0, 1, -5, 1, -5, 0}},
		{[]int64{0, 1, 1, 1, -7, 0}, 0, []int64{0, 1, 1, 0, 1, 0}},
		{[]int64{0, 1, 32767, 1, 0, 0}, 0, []int64{0, 1, 32767, 0, 32767, 0}},
		{[]int64{0, 1, -32768, 0, 7, 0}, 0, []int64{0, 1, -32768, 1, -32768, 0}},
		// the edges: it does not wrap
		{[]int64{1, 0, 0, 0, -32767, 0}, 0, []int64{1, 0, 0, 1, -32768, 1}},
		{[]int64{1, 0, 0, 0, -32768, 0}, 0, []int64{1, 0, 0, 1, -32768, 1}},
		{[]int64{1, 0, 32767, 0, -32768, 0}, 0, []int64{1, 0, 32767, 1, -32768, 1}},
		{[]int64{1, 0, -1, 1, 32767, 0}, 0, []int64{1, 0, -1, 0, 32766, 1}},
	})
}

// pulses answers as many calls with the first field 1 and 0 in turn.
func pulses(many int) []block.Call {
	var calls []block.Call
	for range many {
		calls = append(calls, block.Call{In: []int64{1}}, block.Call{In: []int64{0}})
	}
	return calls
}

// 12.3: counters count each pulse once, however long it is, up and down to their edges, and do not wrap there
func TestCountersDoNotWrap(t *testing.T) {
	for _, c := range []struct {
		kind        int
		from, pulse int64
		want        int64
	}{
		{api.BCtu, 0, 1, 1}, {api.BCtu, 0, 100, 100}, {api.BCtu, 32700, 67, 32767}, {api.BCtu, 32700, 68, 32767}, {api.BCtu, 32700, 500, 32767}, {api.BCtu, -32768, 66000, 32767},
		{api.BCtd, 0, 1, -1}, {api.BCtd, 100, 100, 0}, {api.BCtd, -32700, 68, -32768}, {api.BCtd, -32700, 69, -32768}, {api.BCtd, -32700, 500, -32768}, {api.BCtd, 32767, 66000, -32768},
	} {
		got, e := block.Run(c.kind, []int64{0, 0, 5, 0, c.from, 0}, pulses(int(c.pulse)))
		if e != api.OK || got[4] != c.want {
			t.Errorf("kind %d from %d, %d pulses: %v, %d, want CV %d", c.kind, c.from, c.pulse, got, e, c.want)
		}
	}
	long := slices.Repeat([]block.Call{{In: []int64{1}}}, 50)
	if got, e := block.Run(api.BCtu, []int64{0, 0, 5, 0, 3, 0}, long); e != api.OK || got[4] != 4 {
		t.Errorf("one long pulse: %v, %d", got, e)
	}
	if got, e := block.Run(api.BCtd, []int64{0, 0, 5, 0, 3, 0}, long); e != api.OK || got[4] != 2 {
		t.Errorf("one long pulse down: %v, %d", got, e)
	}
}

// 12.1: R_TRIG and F_TRIG, all cells. The cells: CLK, Q, M.
func TestTriggers(t *testing.T) {
	holdSteps(t, api.BRtrig, []stepRow{
		{[]int64{0, 0, 0}, 0, []int64{0, 0, 0}}, {[]int64{0, 0, 1}, 0, []int64{0, 0, 0}},
		{[]int64{0, 1, 0}, 0, []int64{0, 0, 0}}, {[]int64{0, 1, 1}, 0, []int64{0, 0, 0}},
		{[]int64{1, 0, 0}, 0, []int64{1, 1, 1}}, {[]int64{1, 0, 1}, 0, []int64{1, 0, 1}},
		{[]int64{1, 1, 0}, 0, []int64{1, 1, 1}}, {[]int64{1, 1, 1}, 0, []int64{1, 0, 1}},
	})
	holdSteps(t, api.BFtrig, []stepRow{
		{[]int64{0, 0, 0}, 0, []int64{0, 0, 0}}, {[]int64{0, 0, 1}, 0, []int64{0, 1, 0}},
		{[]int64{0, 1, 0}, 0, []int64{0, 0, 0}}, {[]int64{0, 1, 1}, 0, []int64{0, 1, 0}},
		{[]int64{1, 0, 0}, 0, []int64{1, 0, 1}}, {[]int64{1, 0, 1}, 0, []int64{1, 0, 1}},
		{[]int64{1, 1, 0}, 0, []int64{1, 0, 1}}, {[]int64{1, 1, 1}, 0, []int64{1, 0, 1}},
	})
}

// 12.3: a trigger's Q is there for one call: that at which CLK came, or went
func TestTriggersQIsThereForOneCall(t *testing.T) {
	clk := []int64{0, 0, 1, 1, 1, 0, 0, 1, 0, 1, 1, 0}
	rise := []int64{0, 0, 1, 0, 0, 0, 0, 1, 0, 1, 0, 0}
	fall := []int64{0, 0, 0, 0, 0, 1, 0, 0, 1, 0, 0, 1}
	var calls []block.Call
	for i, c := range clk {
		calls = append(calls, block.Call{Now: int64(i), In: []int64{c}})
		r, e := block.Run(api.BRtrig, make([]int64, 3), calls)
		f, e2 := block.Run(api.BFtrig, make([]int64, 3), calls)
		if e != api.OK || e2 != api.OK || r[1] != rise[i] || f[1] != fall[i] {
			t.Errorf("call %d: %v, %d, %v, %d", i, r, e, f, e2)
		}
	}
	// whatever the cells are, Q is not there at the second of two calls with the same CLK
	for _, k := range kinds[5:7] {
		k.eachCells(func(cells []int64) {
			if got, e := block.Run(k.kind, cells, []block.Call{{}, {}}); e != api.OK || got[1] != 0 {
				t.Errorf("%s %v, two calls: %v, %d", k.name, cells, got, e)
			}
		})
	}
}

// 12.1: SR and RS, all cells. The cells: S1, R, Q1 and S, R1, Q1.
func TestLatches(t *testing.T) {
	holdSteps(t, api.BSr, []stepRow{
		{[]int64{0, 0, 0}, 0, []int64{0, 0, 0}}, {[]int64{0, 0, 1}, 0, []int64{0, 0, 1}},
		{[]int64{0, 1, 0}, 0, []int64{0, 1, 0}}, {[]int64{0, 1, 1}, 0, []int64{0, 1, 0}},
		{[]int64{1, 0, 0}, 0, []int64{1, 0, 1}}, {[]int64{1, 0, 1}, 0, []int64{1, 0, 1}},
		{[]int64{1, 1, 0}, 0, []int64{1, 1, 1}}, {[]int64{1, 1, 1}, 0, []int64{1, 1, 1}},
	})
	holdSteps(t, api.BRs, []stepRow{
		{[]int64{0, 0, 0}, 0, []int64{0, 0, 0}}, {[]int64{0, 0, 1}, 0, []int64{0, 0, 1}},
		{[]int64{0, 1, 0}, 0, []int64{0, 1, 0}}, {[]int64{0, 1, 1}, 0, []int64{0, 1, 0}},
		{[]int64{1, 0, 0}, 0, []int64{1, 0, 1}}, {[]int64{1, 0, 1}, 0, []int64{1, 0, 1}},
		{[]int64{1, 1, 0}, 0, []int64{1, 1, 0}}, {[]int64{1, 1, 1}, 0, []int64{1, 1, 0}},
	})
}

// 12.1: QUAD. The cells: A, B, R, CV, ERR, LAST.
func TestQuad(t *testing.T) {
	holdSteps(t, api.BQuad, []stepRow{
		// from each place to each
		{[]int64{0, 0, 0, 7, 0, 1}, 0, []int64{0, 0, 0, 7, 0, 1}},
		{[]int64{1, 0, 0, 7, 0, 1}, 0, []int64{1, 0, 0, 8, 0, 2}},
		{[]int64{1, 1, 0, 7, 0, 1}, 0, []int64{1, 1, 0, 7, 1, 3}},
		{[]int64{0, 1, 0, 7, 0, 1}, 0, []int64{0, 1, 0, 6, 0, 4}},
		{[]int64{0, 0, 0, 7, 0, 2}, 0, []int64{0, 0, 0, 6, 0, 1}},
		{[]int64{1, 0, 0, 7, 0, 2}, 0, []int64{1, 0, 0, 7, 0, 2}},
		{[]int64{1, 1, 0, 7, 0, 2}, 0, []int64{1, 1, 0, 8, 0, 3}},
		{[]int64{0, 1, 0, 7, 0, 2}, 0, []int64{0, 1, 0, 7, 1, 4}},
		{[]int64{0, 0, 0, 7, 0, 3}, 0, []int64{0, 0, 0, 7, 1, 1}},
		{[]int64{1, 0, 0, 7, 0, 3}, 0, []int64{1, 0, 0, 6, 0, 2}},
		{[]int64{1, 1, 0, 7, 0, 3}, 0, []int64{1, 1, 0, 7, 0, 3}},
		{[]int64{0, 1, 0, 7, 0, 3}, 0, []int64{0, 1, 0, 8, 0, 4}},
		{[]int64{0, 0, 0, 7, 0, 4}, 0, []int64{0, 0, 0, 8, 0, 1}},
		{[]int64{1, 0, 0, 7, 0, 4}, 0, []int64{1, 0, 0, 7, 1, 2}},
		{[]int64{1, 1, 0, 7, 0, 4}, 0, []int64{1, 1, 0, 6, 0, 3}},
		{[]int64{0, 1, 0, 7, 0, 4}, 0, []int64{0, 1, 0, 7, 0, 4}},
		// ERR stays, up to R
		{[]int64{1, 0, 0, 7, 1, 1}, 0, []int64{1, 0, 0, 8, 1, 2}},
		{[]int64{1, 1, 0, 7, 1, 1}, 0, []int64{1, 1, 0, 7, 1, 3}},
		{[]int64{1, 0, 0, 7, 1, 0}, 0, []int64{1, 0, 0, 7, 1, 2}},
		// R: neither a step nor a jump counts, but the place is kept all the same
		{[]int64{1, 0, 1, 7, 1, 1}, 0, []int64{1, 0, 1, 0, 0, 2}},
		{[]int64{1, 1, 1, 7, 0, 1}, 0, []int64{1, 1, 1, 0, 0, 3}},
		{[]int64{0, 1, 1, lowest, 1, 0}, 0, []int64{0, 1, 1, 0, 0, 4}},
		{[]int64{0, 0, 1, highest, 1, -9}, 0, []int64{0, 0, 1, 0, 0, 1}},
		// CV at the edges of a DINT: as NAdd says
		{[]int64{1, 0, 0, highest, 0, 1}, 0, []int64{1, 0, 0, lowest, 0, 2}},
		{[]int64{0, 1, 0, lowest, 0, 1}, 0, []int64{0, 1, 0, highest, 0, 4}},
		{[]int64{1, 0, 0, highest - 1, 0, 1}, 0, []int64{1, 0, 0, highest, 0, 2}},
		{[]int64{0, 1, 0, lowest + 1, 0, 1}, 0, []int64{0, 1, 0, lowest, 0, 4}},
		{[]int64{0, 0, 0, highest, 0, 1}, 0, []int64{0, 0, 0, highest, 0, 1}},
		{[]int64{1, 1, 0, lowest, 0, 1}, 0, []int64{1, 1, 0, lowest, 1, 3}},
	})
}

// 12.1: a LAST that is none of 1 to 4: no step, no jump, whatever place the lines have
func TestQuadFromNoPlace(t *testing.T) {
	places := [][2]int64{{0, 0}, {1, 0}, {1, 1}, {0, 1}}
	for _, last := range []int64{0, -1, -2, -3, -4, 5, 6, 7, 8, 256, 257, 32767, -32767, -32768} {
		for n, p := range places {
			for _, err := range []int64{0, 1} {
				holdSteps(t, api.BQuad, []stepRow{{[]int64{p[0], p[1], 0, 7, err, last}, 0, []int64{p[0], p[1], 0, 7, err, int64(n) + 1}}})
			}
		}
	}
}

// 12.1, 12.2: round and round in both directions
func TestQuadRoundAndRound(t *testing.T) {
	up := []block.Call{{In: []int64{0, 0}}, {In: []int64{1, 0}}, {In: []int64{1, 1}}, {In: []int64{0, 1}}}
	down := slices.Clone(up)
	slices.Reverse(down)
	for _, rounds := range []int{1, 2, 50} {
		n := int64(4*rounds - 1) // the first call has no place to come from
		if got, e := block.Run(api.BQuad, make([]int64, 6), slices.Repeat(up, rounds)); e != api.OK || !slices.Equal(got, []int64{0, 1, 0, n, 0, 4}) {
			t.Errorf("%d rounds up: %v, %d", rounds, got, e)
		}
		if got, e := block.Run(api.BQuad, make([]int64, 6), slices.Repeat(down, rounds)); e != api.OK || !slices.Equal(got, []int64{0, 0, 0, -n, 0, 1}) {
			t.Errorf("%d rounds down: %v, %d", rounds, got, e)
		}
	}
	got, e := block.Run(api.BQuad, []int64{0, 0, 0, highest, 0, 4}, slices.Repeat(up, 2))
	if e != api.OK || !slices.Equal(got, []int64{0, 1, 0, lowest + 7, 0, 4}) {
		t.Errorf("beyond the greatest DINT: %v, %d", got, e)
	}
}

// 12.1: what is no timer does the same at all times
func TestTimeIsForTimersAlone(t *testing.T) {
	for _, k := range kinds[3:] {
		k.eachCells(func(cells []int64) {
			first, _ := block.Step(k.kind, cells, 0)
			for _, now := range []int64{1, 5, highest} {
				if got, e := block.Step(k.kind, cells, now); !slices.Equal(got, first) || e != api.OK {
					t.Fatalf("%s %v: %v at 0, %v, %d at %d", k.name, cells, first, got, e, now)
				}
			}
		})
	}
}

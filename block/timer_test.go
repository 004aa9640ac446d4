package block_test

import (
	"math"
	"slices"
	"testing"

	"capstan/api"
	"capstan/block"
)

const (
	lowest  = math.MinInt32
	highest = math.MaxInt32
)

// stepRow is a call of a block: its cells, the time, the cells behind it.
type stepRow struct {
	cells []int64
	now   int64
	want  []int64
}

func holdSteps(t *testing.T, kind int, rows []stepRow) {
	t.Helper()
	for _, r := range rows {
		if got, e := block.Step(kind, r.cells, r.now); !slices.Equal(got, r.want) || e != api.OK {
			t.Errorf("kind %d, %v at %d: %v, %d, want %v", kind, r.cells, r.now, got, e, r.want)
		}
	}
}

// 12.1: TON. The cells: IN, PT, Q, ET, START, RUN.
func TestTon(t *testing.T) {
	holdSteps(t, api.BTon, []stepRow{
		// without IN: Q, ET and RUN go, START stays
		{[]int64{0, 5, 0, 0, 0, 0}, 7, []int64{0, 5, 0, 0, 0, 0}},
		{[]int64{0, 5, 1, 3, 2, 1}, 7, []int64{0, 5, 0, 0, 2, 0}},
		{[]int64{0, 0, 1, -3, lowest, 0}, 0, []int64{0, 0, 0, 0, lowest, 0}},
		// it begins
		{[]int64{1, 5, 0, 0, 0, 0}, 7, []int64{1, 5, 0, 0, 7, 1}},
		{[]int64{1, 5, 1, 4, 3, 0}, 7, []int64{1, 5, 0, 0, 7, 1}},
		{[]int64{1, 1, 0, 0, 0, 0}, highest, []int64{1, 1, 0, 0, highest, 1}},
		// it begins with a PT that has gone at once
		{[]int64{1, 0, 0, 0, 0, 0}, 7, []int64{1, 0, 1, 0, 7, 1}},
		{[]int64{1, -5, 0, 0, 0, 0}, 7, []int64{1, -5, 1, -5, 7, 1}},
		{[]int64{1, lowest, 0, 0, 0, 0}, 7, []int64{1, lowest, 1, lowest, 7, 1}},
		// it goes on: gone below PT, at it, above it
		{[]int64{1, 5, 0, 0, 7, 1}, 7, []int64{1, 5, 0, 0, 7, 1}},
		{[]int64{1, 5, 0, 0, 7, 1}, 11, []int64{1, 5, 0, 4, 7, 1}},
		{[]int64{1, 5, 0, 4, 7, 1}, 12, []int64{1, 5, 1, 5, 7, 1}},
		{[]int64{1, 5, 1, 5, 7, 1}, 13, []int64{1, 5, 1, 5, 7, 1}},
		{[]int64{1, 5, 1, 5, 7, 1}, highest, []int64{1, 5, 1, 5, 7, 1}},
		// PT was made greater behind the end: Q goes
		{[]int64{1, 9, 1, 5, 7, 1}, 13, []int64{1, 9, 0, 6, 7, 1}},
		// the greatest PT
		{[]int64{1, highest, 0, 0, 0, 1}, highest - 1, []int64{1, highest, 0, highest - 1, 0, 1}},
		{[]int64{1, highest, 0, 0, 0, 1}, highest, []int64{1, highest, 1, highest, 0, 1}},
		{[]int64{1, highest, 0, 0, 1, 1}, highest, []int64{1, highest, 0, highest - 1, 1, 1}},
	})
}

// 12.1: gone wraps as NSub of TTime does, of all timers
func TestGoneWraps(t *testing.T) {
	for _, c := range []struct{ start, now, gone int64 }{
		{8, 7, -1}, {highest, 0, -highest}, {highest, highest, 0}, {0, highest, highest},
		{-1, 0, 1}, {-1, highest - 1, highest}, {-1, highest, lowest}, {-2, highest, lowest + 1},
		{lowest, 0, lowest}, {lowest, 1, lowest + 1}, {lowest, highest, -1}, {lowest + 1, 0, highest}, {lowest + 1, 1, lowest}, {lowest + 1, highest, -2},
	} {
		for _, pt := range []int64{lowest, -5, 0, 5, highest} {
			et, over := min(c.gone, pt), whether(c.gone >= pt)
			holdSteps(t, api.BTon, []stepRow{{[]int64{1, pt, 0, 0, c.start, 1}, c.now, []int64{1, pt, over, et, c.start, 1}}})
			holdSteps(t, api.BTof, []stepRow{{[]int64{0, pt, 1, 0, c.start, 1}, c.now, []int64{0, pt, 1 - over, et, c.start, 1 - over}}})
			holdSteps(t, api.BTp, []stepRow{{[]int64{1, pt, 1, 0, c.start, 1}, c.now, []int64{1, pt, 1 - over, et, c.start, 1 - over}}})
		}
	}
	// and written out
	holdSteps(t, api.BTon, []stepRow{
		{[]int64{1, 5, 0, 0, 9, 1}, 7, []int64{1, 5, 0, -2, 9, 1}},
		{[]int64{1, -2, 0, 0, 9, 1}, 7, []int64{1, -2, 1, -2, 9, 1}},
		{[]int64{1, -1, 0, 0, 9, 1}, 7, []int64{1, -1, 0, -2, 9, 1}},
		{[]int64{1, 5, 0, 0, -1, 1}, highest, []int64{1, 5, 0, lowest, -1, 1}},
		{[]int64{1, 5, 0, 0, lowest, 1}, highest, []int64{1, 5, 0, -1, lowest, 1}},
	})
}

// 12.1: TOF
func TestTof(t *testing.T) {
	holdSteps(t, api.BTof, []stepRow{
		// with IN: Q comes, ET and RUN go, START stays
		{[]int64{1, 5, 0, 0, 0, 0}, 7, []int64{1, 5, 1, 0, 0, 0}},
		{[]int64{1, 5, 0, 5, 2, 0}, 7, []int64{1, 5, 1, 0, 2, 0}},
		{[]int64{1, 5, 1, 3, 2, 1}, 7, []int64{1, 5, 1, 0, 2, 0}},
		{[]int64{1, lowest, 0, -3, 2, 1}, 0, []int64{1, lowest, 1, 0, 2, 0}},
		// without IN and Q: nothing, whatever RUN, ET and START are
		{[]int64{0, 5, 0, 0, 0, 0}, 7, []int64{0, 5, 0, 0, 0, 0}},
		{[]int64{0, 5, 0, 5, 2, 0}, 7, []int64{0, 5, 0, 5, 2, 0}},
		{[]int64{0, 5, 0, 3, 2, 1}, 99, []int64{0, 5, 0, 3, 2, 1}},
		{[]int64{0, 0, 0, -3, -2, 1}, 99, []int64{0, 0, 0, -3, -2, 1}},
		// IN went: it begins
		{[]int64{0, 5, 1, 0, 0, 0}, 7, []int64{0, 5, 1, 0, 7, 1}},
		{[]int64{0, 5, 1, 4, 3, 0}, 7, []int64{0, 5, 1, 0, 7, 1}},
		// with a PT that has gone at once
		{[]int64{0, 0, 1, 0, 0, 0}, 7, []int64{0, 0, 0, 0, 7, 0}},
		{[]int64{0, -5, 1, 0, 0, 0}, 7, []int64{0, -5, 0, -5, 7, 0}},
		{[]int64{0, lowest, 1, 0, 0, 0}, 7, []int64{0, lowest, 0, lowest, 7, 0}},
		// it goes on: gone below PT, at it, above it
		{[]int64{0, 5, 1, 0, 7, 1}, 7, []int64{0, 5, 1, 0, 7, 1}},
		{[]int64{0, 5, 1, 0, 7, 1}, 11, []int64{0, 5, 1, 4, 7, 1}},
		{[]int64{0, 5, 1, 4, 7, 1}, 12, []int64{0, 5, 0, 5, 7, 0}},
		{[]int64{0, 5, 1, 4, 7, 1}, 99, []int64{0, 5, 0, 5, 7, 0}},
		// the greatest PT
		{[]int64{0, highest, 1, 0, 0, 1}, highest - 1, []int64{0, highest, 1, highest - 1, 0, 1}},
		{[]int64{0, highest, 1, 0, 0, 1}, highest, []int64{0, highest, 0, highest, 0, 0}},
		{[]int64{0, highest, 1, 0, 1, 1}, highest, []int64{0, highest, 1, highest - 1, 1, 1}},
		// START behind now
		{[]int64{0, 5, 1, 0, 9, 1}, 7, []int64{0, 5, 1, -2, 9, 1}},
		{[]int64{0, -2, 1, 0, 9, 1}, 7, []int64{0, -2, 0, -2, 9, 0}},
	})
}

// 12.1: TP
func TestTp(t *testing.T) {
	holdSteps(t, api.BTp, []stepRow{
		// it begins: IN, no RUN, ET 0
		{[]int64{1, 5, 0, 0, 0, 0}, 7, []int64{1, 5, 1, 0, 7, 1}},
		{[]int64{1, 5, 1, 0, 3, 0}, 7, []int64{1, 5, 1, 0, 7, 1}},
		// with a PT that has gone at once: no pulse
		{[]int64{1, 0, 0, 0, 0, 0}, 7, []int64{1, 0, 0, 0, 7, 0}},
		{[]int64{1, -5, 0, 0, 0, 0}, 7, []int64{1, -5, 0, -5, 7, 0}},
		{[]int64{1, lowest, 1, 0, 0, 0}, 7, []int64{1, lowest, 0, lowest, 7, 0}},
		// IN is still there behind the end: it does not begin again, and Q and ET stay
		{[]int64{1, 5, 0, 5, 3, 0}, 9, []int64{1, 5, 0, 5, 3, 0}},
		{[]int64{1, 5, 1, 5, 3, 0}, 9, []int64{1, 5, 1, 5, 3, 0}},
		{[]int64{1, 5, 0, -1, 3, 0}, 9, []int64{1, 5, 0, -1, 3, 0}},
		// neither RUN nor IN: ET goes, Q stays
		{[]int64{0, 5, 0, 0, 0, 0}, 7, []int64{0, 5, 0, 0, 0, 0}},
		{[]int64{0, 5, 0, 5, 3, 0}, 9, []int64{0, 5, 0, 0, 3, 0}},
		{[]int64{0, 5, 1, 5, 3, 0}, 9, []int64{0, 5, 1, 0, 3, 0}},
		{[]int64{0, 5, 0, -5, 3, 0}, 9, []int64{0, 5, 0, 0, 3, 0}},
		// it goes on with IN: gone below PT, at it, above it
		{[]int64{1, 5, 1, 0, 7, 1}, 7, []int64{1, 5, 1, 0, 7, 1}},
		{[]int64{1, 5, 1, 0, 7, 1}, 11, []int64{1, 5, 1, 4, 7, 1}},
		{[]int64{1, 5, 1, 4, 7, 1}, 12, []int64{1, 5, 0, 5, 7, 0}},
		{[]int64{1, 5, 1, 4, 7, 1}, 99, []int64{1, 5, 0, 5, 7, 0}},
		// and without: the end takes ET with it
		{[]int64{0, 5, 1, 0, 7, 1}, 11, []int64{0, 5, 1, 4, 7, 1}},
		{[]int64{0, 5, 1, 4, 7, 1}, 12, []int64{0, 5, 0, 0, 7, 0}},
		{[]int64{0, 5, 0, 4, 7, 1}, 11, []int64{0, 5, 1, 4, 7, 1}},
		{[]int64{0, 0, 1, 4, 7, 1}, 8, []int64{0, 0, 0, 0, 7, 0}},
		// the greatest PT
		{[]int64{0, highest, 1, 0, 0, 1}, highest - 1, []int64{0, highest, 1, highest - 1, 0, 1}},
		{[]int64{1, highest, 1, 0, 0, 1}, highest, []int64{1, highest, 0, highest, 0, 0}},
		{[]int64{1, highest, 1, 0, 1, 1}, highest, []int64{1, highest, 1, highest - 1, 1, 1}},
		// START behind now
		{[]int64{1, 5, 1, 0, 9, 1}, 7, []int64{1, 5, 1, -2, 9, 1}},
		{[]int64{1, -2, 1, 0, 9, 1}, 7, []int64{1, -2, 0, -2, 9, 0}},
		{[]int64{0, -2, 1, 0, 9, 1}, 7, []int64{0, -2, 0, 0, 9, 0}},
	})
}

// moment is a call of a timer: the time and IN, and what of Q and ET is seen behind it.
type moment struct {
	now, in, q, et int64
}

// play calls a timer with this PT moment by moment, and holds what is seen, by steps and by runs of all calls up to each.
func play(t *testing.T, kind int, pt int64, moments []moment) {
	t.Helper()
	cells := []int64{0, pt, 0, 0, 0, 0}
	var calls []block.Call
	for i, m := range moments {
		cells[0] = m.in
		cells, _ = block.Step(kind, cells, m.now)
		calls = append(calls, block.Call{Now: m.now, In: []int64{m.in, pt}})
		run, e := block.Run(kind, make([]int64, 6), calls)
		if e != api.OK || !slices.Equal(run, cells) {
			t.Fatalf("kind %d, moment %d: %v by steps, %v, %d by a run", kind, i, cells, run, e)
		}
		if cells[2] != m.q || cells[3] != m.et {
			t.Errorf("kind %d, moment %d, at %d: Q %d, ET %d, want %d, %d", kind, i, m.now, cells[2], cells[3], m.q, m.et)
		}
	}
}

// 12.1, 12.2: the chapter's example, and a TON that is cut off, begins again, and goes on behind its end
func TestTonPlayed(t *testing.T) {
	play(t, api.BTon, 5, []moment{{0, 1, 0, 0}, {3, 1, 0, 3}, {5, 1, 1, 5}, {5, 0, 0, 0}})
	play(t, api.BTon, 5, []moment{
		{0, 0, 0, 0}, {10, 1, 0, 0}, {14, 1, 0, 4}, {15, 0, 0, 0}, {16, 1, 0, 0}, {20, 1, 0, 4},
		{21, 1, 1, 5}, {22, 1, 1, 5}, {500, 1, 1, 5}, {501, 0, 0, 0}, {502, 0, 0, 0}, {503, 1, 0, 0}, {508, 1, 1, 5},
	})
	play(t, api.BTon, 0, []moment{{0, 0, 0, 0}, {1, 1, 1, 0}, {2, 1, 1, 0}, {3, 0, 0, 0}, {3, 1, 1, 0}})
	play(t, api.BTon, -5, []moment{{0, 0, 0, 0}, {1, 1, 1, -5}, {2, 1, 1, -5}, {3, 0, 0, 0}})
	play(t, api.BTon, highest, []moment{{0, 1, 0, 0}, {highest - 1, 1, 0, highest - 1}, {highest, 1, 1, highest}})
}

// 12.1, 12.2: a TOF that is begun again by IN, ends, and stays so
func TestTofPlayed(t *testing.T) {
	play(t, api.BTof, 5, []moment{
		{0, 0, 0, 0}, {1, 1, 1, 0}, {9, 1, 1, 0}, {10, 0, 1, 0}, {14, 0, 1, 4}, {14, 1, 1, 0}, {15, 0, 1, 0}, {19, 0, 1, 4},
		{20, 0, 0, 5}, {21, 0, 0, 5}, {500, 0, 0, 5}, {501, 1, 1, 0}, {502, 0, 1, 0}, {507, 0, 0, 5},
	})
	play(t, api.BTof, 0, []moment{{0, 1, 1, 0}, {1, 0, 0, 0}, {2, 0, 0, 0}})
	play(t, api.BTof, -5, []moment{{0, 1, 1, 0}, {1, 0, 0, -5}, {2, 0, 0, -5}, {3, 1, 1, 0}})
	play(t, api.BTof, highest, []moment{{0, 1, 1, 0}, {0, 0, 1, 0}, {highest - 1, 0, 1, highest - 1}, {highest, 0, 0, highest}})
}

// 12.1, 12.2: a TP whose pulse IN neither cuts off nor begins anew, and that begins again once IN was gone
func TestTpPlayed(t *testing.T) {
	play(t, api.BTp, 5, []moment{
		{0, 0, 0, 0}, {10, 1, 1, 0}, {11, 0, 1, 1}, {12, 1, 1, 2}, {14, 1, 1, 4}, {15, 1, 0, 5}, {16, 1, 0, 5}, {500, 1, 0, 5},
		{501, 0, 0, 0}, {502, 0, 0, 0}, {503, 1, 1, 0}, {504, 0, 1, 1}, {507, 0, 1, 4}, {508, 0, 0, 0}, {509, 1, 1, 0},
	})
	// IN comes again at the call at which the pulse is over: it is seen as the same one
	play(t, api.BTp, 5, []moment{{0, 1, 1, 0}, {4, 0, 1, 4}, {5, 1, 0, 5}, {6, 1, 0, 5}, {7, 0, 0, 0}, {8, 1, 1, 0}})
	play(t, api.BTp, 0, []moment{{0, 1, 0, 0}, {1, 1, 0, 0}, {2, 0, 0, 0}})
	play(t, api.BTp, -5, []moment{{0, 1, 0, -5}, {1, 1, 0, -5}, {2, 0, 0, 0}, {3, 1, 0, -5}})
	play(t, api.BTp, highest, []moment{{0, 1, 1, 0}, {highest - 1, 0, 1, highest - 1}, {highest, 1, 0, highest}})
}

// 12.3: a TON that is called each millisecond with IN has Q from the call PT milliseconds behind the first one on
func TestTonComesJustWhenPTHasGone(t *testing.T) {
	for _, pt := range []int64{0, 1, 2, 5, 100, 1000} {
		for _, first := range []int64{0, 1, 17, highest - 2000} {
			cells := []int64{0, pt, 0, 0, 0, 0}
			var calls []block.Call
			for now := first; now <= first+pt+20; now++ {
				cells[0] = 1
				cells, _ = block.Step(api.BTon, cells, now)
				calls = append(calls, block.Call{Now: now, In: []int64{1, pt}})
				if want := whether(now >= first+pt); cells[2] != want {
					t.Fatalf("PT %d, from %d on, at %d: Q %d", pt, first, now, cells[2])
				}
			}
			for _, many := range []int64{pt, pt + 1, pt + 2, pt + 20} {
				if run, e := block.Run(api.BTon, make([]int64, 6), calls[:many]); e != api.OK || run[2] != whether(many > pt) {
					t.Errorf("PT %d, from %d on, %d calls: %v, %d", pt, first, many, run, e)
				}
			}
		}
	}
}

// 12.3: a TOF's Q goes, and a TP's, just when PT has gone
func TestTofAndTpGoJustWhenPTHasGone(t *testing.T) {
	for _, pt := range []int64{1, 2, 5, 100, 1000} {
		for _, first := range []int64{0, 17, highest - 2000} {
			tof, tp := []int64{0, pt, 1, 0, 0, 0}, []int64{1, pt, 0, 0, 0, 0}
			for now := first; now <= first+pt+20; now++ {
				tof, _ = block.Step(api.BTof, tof, now)
				tp, _ = block.Step(api.BTp, tp, now)
				if want := whether(now < first+pt); tof[2] != want || tp[2] != want {
					t.Fatalf("PT %d, from %d on, at %d: TOF's Q %d, TP's %d", pt, first, now, tof[2], tp[2])
				}
			}
		}
	}
}

package vm_test

import (
	"fmt"
	"math/rand"
	"slices"
	"strings"
	"testing"

	"capstan/api"
	"capstan/block"
	"capstan/typed"
	"capstan/vm"
)

// fieldTypes are the types of the fields of each kind of block.
var fieldTypes = []string{"", "BTBTTB", "BTBTTB", "BTBTTB", "BBIBIB", "BBIBIB", "BBB", "BBB", "BBB", "BBB", "BBBDBI"}

// blockImage answers an image whose code calls a block of the kind so often; an INT lies ahead of its cells, and another one behind.
func blockImage(kind, calls int) api.Image {
	l := slices.Repeat([]api.Instr{{Op: api.ICall, A: kind, B: 1}}, calls)
	return imageOf("I"+fieldTypes[kind]+"I", append(l, api.Instr{Op: api.IEnd}))
}

// called answers the block's cells behind a scan that calls it so often; it fails the test, if one of the others is changed.
func called(t *testing.T, kind, calls int, own []int64, now int64) []int64 {
	t.Helper()
	x := blockImage(kind, calls)
	cells := append(append([]int64{-77}, own...), 99)
	s := holds(t, machine(t, x), x, cells, now, 100)
	last := len(cells) - 1
	if s.Trap != api.TDone || s.Used != calls+1 || s.Cells[0] != -77 || s.Cells[last] != 99 {
		t.Errorf("kind %d, %v at %d: %v", kind, own, now, s.End)
	}
	return s.Cells[1:last]
}

// step is a scan: what the first of the block's fields are set to ahead of it, when it is, and all fields behind one call.
type step struct {
	in   []int64
	now  int64
	want []int64
}

// 16.2: a block of each kind, scan behind scan; each time called once, and from the same cells twice, which is as one more scan at the same time
func TestBlocks(t *testing.T) {
	for kind, steps := range [][]step{
		api.BTon:   {{[]int64{1, 5}, 10, []int64{1, 5, 0, 0, 10, 1}}, {nil, 10, []int64{1, 5, 0, 0, 10, 1}}, {nil, 14, []int64{1, 5, 0, 4, 10, 1}}, {nil, 15, []int64{1, 5, 1, 5, 10, 1}}, {nil, 900, []int64{1, 5, 1, 5, 10, 1}}, {[]int64{0}, 901, []int64{0, 5, 0, 0, 10, 0}}, {[]int64{1, 0}, 902, []int64{1, 0, 1, 0, 902, 1}}},
		api.BTof:   {{[]int64{1, 5}, 10, []int64{1, 5, 1, 0, 0, 0}}, {[]int64{0}, 20, []int64{0, 5, 1, 0, 20, 1}}, {nil, 24, []int64{0, 5, 1, 4, 20, 1}}, {nil, 25, []int64{0, 5, 0, 5, 20, 0}}, {nil, 30, []int64{0, 5, 0, 5, 20, 0}}},
		api.BTp:    {{[]int64{1, 5}, 10, []int64{1, 5, 1, 0, 10, 1}}, {[]int64{0}, 12, []int64{0, 5, 1, 2, 10, 1}}, {nil, 15, []int64{0, 5, 0, 0, 10, 0}}, {[]int64{1}, 16, []int64{1, 5, 1, 0, 16, 1}}, {nil, 30, []int64{1, 5, 0, 5, 16, 0}}, {nil, 31, []int64{1, 5, 0, 5, 16, 0}}},
		api.BCtu:   {{[]int64{1, 0, 2}, 0, []int64{1, 0, 2, 0, 1, 1}}, {nil, 0, []int64{1, 0, 2, 0, 1, 1}}, {[]int64{0}, 0, []int64{0, 0, 2, 0, 1, 0}}, {[]int64{1}, 0, []int64{1, 0, 2, 1, 2, 1}}, {[]int64{1, 1}, 0, []int64{1, 1, 2, 0, 0, 1}}},
		api.BCtd:   {{[]int64{0, 1, 2}, 0, []int64{0, 1, 2, 0, 2, 0}}, {[]int64{1, 0}, 0, []int64{1, 0, 2, 0, 1, 1}}, {[]int64{0}, 0, []int64{0, 0, 2, 0, 1, 0}}, {[]int64{1}, 0, []int64{1, 0, 2, 1, 0, 1}}},
		api.BRtrig: {{[]int64{1}, 0, []int64{1, 1, 1}}, {nil, 0, []int64{1, 0, 1}}, {[]int64{0}, 0, []int64{0, 0, 0}}, {[]int64{1}, 0, []int64{1, 1, 1}}},
		api.BFtrig: {{[]int64{1}, 0, []int64{1, 0, 1}}, {[]int64{0}, 0, []int64{0, 1, 0}}, {nil, 0, []int64{0, 0, 0}}},
		api.BSr:    {{[]int64{1, 1}, 0, []int64{1, 1, 1}}, {[]int64{0, 0}, 0, []int64{0, 0, 1}}, {[]int64{0, 1}, 0, []int64{0, 1, 0}}, {[]int64{0, 0}, 0, []int64{0, 0, 0}}},
		api.BRs:    {{[]int64{1, 0}, 0, []int64{1, 0, 1}}, {[]int64{0, 0}, 0, []int64{0, 0, 1}}, {[]int64{1, 1}, 0, []int64{1, 1, 0}}},
		api.BQuad:  {{[]int64{0, 0, 0}, 0, []int64{0, 0, 0, 0, 0, 1}}, {[]int64{1}, 0, []int64{1, 0, 0, 1, 0, 2}}, {[]int64{1, 1}, 0, []int64{1, 1, 0, 2, 0, 3}}, {[]int64{1, 0}, 0, []int64{1, 0, 0, 1, 0, 2}}, {[]int64{0, 1}, 0, []int64{0, 1, 0, 1, 1, 4}}, {[]int64{0, 1, 1}, 0, []int64{0, 1, 1, 0, 0, 4}}},
	} {
		if kind == 0 {
			continue
		}
		own := make([]int64, len(fieldTypes[kind]))
		for n, s := range steps {
			copy(own, s.in)
			once := called(t, kind, 1, own, s.now)
			if !slices.Equal(once, s.want) {
				t.Errorf("kind %d, step %d: %v, not %v", kind, n, once, s.want)
			}
			twice := called(t, kind, 2, own, s.now)
			if again := called(t, kind, 1, once, s.now); !slices.Equal(twice, again) {
				t.Errorf("kind %d, step %d: twice %v, again %v", kind, n, twice, again)
			}
			own = once
		}
	}
}

// 16.2: twice in a scan is not as once, where it is another thing
func TestCalledTwice(t *testing.T) {
	for _, c := range []struct {
		kind      int
		own, want []int64
	}{
		{api.BRtrig, []int64{1, 0, 0}, []int64{1, 0, 1}}, {api.BFtrig, []int64{0, 0, 1}, []int64{0, 0, 0}}, {api.BCtu, []int64{1, 0, 5, 0, 3, 0}, []int64{1, 0, 5, 0, 4, 1}}, {api.BCtd, []int64{1, 0, 5, 0, 3, 0}, []int64{1, 0, 5, 0, 2, 1}}, {api.BTp, []int64{0, 5, 0, 5, 0, 0}, []int64{0, 5, 0, 0, 0, 0}},
		{api.BTon, []int64{1, 0, 0, 0, 0, 0}, []int64{1, 0, 1, 0, 7, 1}}, {api.BTof, []int64{0, 0, 1, 0, 0, 0}, []int64{0, 0, 0, 0, 7, 0}}, {api.BSr, []int64{1, 0, 0}, []int64{1, 0, 1}}, {api.BRs, []int64{1, 1, 1}, []int64{1, 1, 0}}, {api.BQuad, []int64{1, 0, 0, 8, 0, 1}, []int64{1, 0, 0, 9, 0, 2}},
	} {
		if got := called(t, c.kind, 2, c.own, 7); !slices.Equal(got, c.want) {
			t.Errorf("kind %d: %v, not %v", c.kind, got, c.want)
		}
	}
}

// 16.2: two blocks of a kind do not meet; their fields are cells as others are
func TestFieldsAreCells(t *testing.T) {
	x := imageOf(fieldTypes[api.BCtu]+fieldTypes[api.BCtu], instrs("push B 1; store 0; call 4 0; push I 3; store 8; load 4; store 10; call 4 6; push B 0; store 0; call 4 0; push B 1; store 0; call 4 0; end"))
	m := machine(t, x)
	s := holds(t, m, x, x.First, 0, 100)
	if want := []int64{1, 0, 0, 1, 2, 1, 0, 0, 3, 0, 1, 0}; !slices.Equal(s.Cells, want) || s.Used != 15 {
		t.Error(s.End)
	}
	// cells of which blocks of several kinds have a share
	x = imageOf("BBIBIBB", instrs("call 4 0; call 5 0; call 8 0; end"))
	refused(t, x, 2, api.ErrCode)
	x.Code = instrs("call 4 0; call 5 0; call 4 0; end")
	s = holds(t, machine(t, x), x, []int64{1, 1, 7, 0, 0, 0, 1}, 0, 100)
	if want := []int64{1, 1, 7, 0, 0, 1, 1}; !slices.Equal(s.Cells, want) {
		t.Error(s.End)
	}
}

// 16.2: timers at the least and the greatest time, and at one that is ahead of their START
func TestTimes(t *testing.T) {
	const greatest = 2147483647
	for _, c := range []struct {
		own  []int64
		now  int64
		want []int64
	}{
		{[]int64{1, 5, 0, 0, 0, 0}, 0, []int64{1, 5, 0, 0, 0, 1}}, {[]int64{1, 5, 0, 0, 0, 0}, greatest, []int64{1, 5, 0, 0, greatest, 1}}, {[]int64{1, greatest, 0, 0, 0, 1}, greatest, []int64{1, greatest, 1, greatest, 0, 1}}, {[]int64{1, greatest, 0, 0, 1, 1}, greatest, []int64{1, greatest, 0, greatest - 1, 1, 1}}, {[]int64{1, 5, 1, 5, 10, 1}, 8, []int64{1, 5, 0, -2, 10, 1}}, {[]int64{1, 5, 0, 0, -1, 1}, greatest, []int64{1, 5, 0, -2147483648, -1, 1}},
	} {
		if got := called(t, api.BTon, 1, c.own, c.now); !slices.Equal(got, c.want) {
			t.Errorf("%v at %d: %v, not %v", c.own, c.now, got, c.want)
		}
	}
}

// 16.2: a TON over many scans: Q from the call PT behind the first one on
func TestScanBehindScan(t *testing.T) {
	m := machine(t, blockImage(api.BTon, 1))
	cells := []int64{0, 1, 20, 0, 0, 0, 0, 0}
	for now := int64(100); now < 200; now++ {
		s, e := m.Scan(cells, now, 2)
		if e != api.OK || s.Trap != api.TDone || s.Cells[3] != truth(now >= 120) || s.Cells[4] != min(now-100, 20) {
			t.Fatal(now, s, e)
		}
		cells = s.Cells
	}
}

// 16.2: blocks of each kind with any cells, at any time, are what Step makes of them
func TestRandomBlocks(t *testing.T) {
	r := rand.New(rand.NewSource(16))
	machines := map[string]*vm.Machine{}
	for n := range 20000 {
		kind, calls := 1+n%10, 1+r.Intn(3)
		fields, e := typed.Fields(kind)
		if e != api.OK || len(fields) != len(fieldTypes[kind]) {
			t.Fatal(kind, e)
		}
		own := make([]int64, len(fields))
		for k, f := range fields {
			if own[k] = edgesOf(f.Type)[r.Intn(len(edgesOf(f.Type)))]; r.Intn(2) == 0 {
				own[k] = int64(r.Intn(6)) & spans[f.Type][1]
			}
		}
		now := []int64{0, 1, int64(r.Intn(10)), 2147483647, int64(r.Int31())}[r.Intn(5)]
		want := own
		for range calls {
			if want, e = block.Step(kind, want, now); e != api.OK {
				t.Fatal(kind, want, e)
			}
		}
		name := fmt.Sprint(kind, calls)
		if machines[name] == nil {
			machines[name] = machine(t, blockImage(kind, calls))
		}
		s, e := machines[name].Scan(append(append([]int64{5}, own...), 6), now, 9)
		if got := s.Cells; e != api.OK || got[0] != 5 || got[len(got)-1] != 6 || !slices.Equal(got[1:len(got)-1], want) || s.Used != calls+1 {
			t.Fatal(kind, own, now, s, want, strings.Repeat("!", calls))
		}
	}
}

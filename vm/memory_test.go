package vm_test

import (
	"math/rand"
	"slices"
	"sync"
	"testing"

	"capstan/api"
	"capstan/vm"
)

// kept is an image that uses much of what an image has, and what its scan begins with.
func kept() (x api.Image, cells []int64) {
	x = image("load 1; push I 1; two + I; store 1; load 1; loadx 6 3; store 8; push I 0; load 1; storex 6 3; call 4 19; load 0; false 14; jump 15; end; push I 9; store 7; push I 3; loadx 6 3; end")
	x.In, x.Out = []int{0, 2}, []int{7, 3}
	x.First[1], x.First[33] = 5, -6
	return x, with(len(laid), "0=1 1=1 7=70 8=80 19=1")
}

// asCopy answers the image in memory of its own.
func asCopy(x api.Image) api.Image {
	x.Types, x.First, x.In, x.Out, x.Code = slices.Clone(x.Types), slices.Clone(x.First), slices.Clone(x.In), slices.Clone(x.Out), slices.Clone(x.Code)
	return x
}

// spoil changes all that the image's lists have, spare room too.
func spoil(x api.Image) {
	for _, l := range [][]int{x.Types, x.In, x.Out} {
		fill(l, 1)
	}
	fill(x.First, 1)
	fill(x.Code, api.Instr{Op: api.IPush, A: api.TBool})
}

func fill[T any](l []T, with T) {
	l = l[:cap(l)]
	for n := range l {
		l[n] = with
	}
}

// roomy answers the list with room behind it in which these stand, and the whole of that.
func roomy[T any](l []T, behind ...T) (given, whole []T) {
	whole = append(slices.Clone(l), behind...)
	return whole[:len(l)], whole
}

// R4, 16.1: the machine keeps an image of its own: what was handed in is changed afterwards
func TestImageHandedInIsChanged(t *testing.T) {
	want, cells := kept()
	given := asCopy(want)
	m := machine(t, given)
	if !sameImage(given, want) {
		t.Error("New changes what is handed in")
	}
	spoil(given)
	if got := m.Image(); !sameImage(got, want) {
		t.Errorf("Image: %v", got)
	}
	if got := m.First(); !slices.Equal(got, want.First) {
		t.Errorf("First: %v", got)
	}
	if s := holds(t, m, want, cells, 3, 100); s.Trap != api.TIndex {
		t.Error(s.End)
	}
	refuses(t, m, with(len(laid), "2=70000"), 0, 10, api.OK) // by the types that were handed in
	refuses(t, m, with(len(laid), "1=70000"), 0, 10, api.ErrRange)
}

// R4, 16.1: what Image and First hand back is the caller's own, spare room too
func TestImageHandedBackIsChanged(t *testing.T) {
	want, cells := kept()
	m := machine(t, asCopy(want))
	for range 3 {
		other, first, second := m.Image(), m.First(), m.First()
		spoil(m.Image())
		fill(m.First(), 1)
		fill(first, 1)
		if !sameImage(other, want) || !sameImage(m.Image(), want) {
			t.Errorf("Image: %v, %v", other, m.Image())
		}
		if !slices.Equal(second, want.First) || !slices.Equal(m.First(), want.First) {
			t.Errorf("First: %v, %v", second, m.First())
		}
		holds(t, m, want, cells, 3, 100)
	}
	// no two lists of one answer share any
	x := m.Image()
	fill(x.In, 77)
	if !slices.Equal(x.Types, want.Types) || !slices.Equal(x.Out, want.Out) {
		t.Errorf("%v", x)
	}
	fill(x.Out, 78)
	if !slices.Equal(x.Types, want.Types) || x.In[0] != 77 {
		t.Errorf("%v", x)
	}
}

// R4: an image that is handed in stays, spare room too, and what lies behind its lists is not read
func TestSpareRoomOfImages(t *testing.T) {
	want, cells := kept()
	for _, x := range []api.Image{want, image("push I 1"), image("two + I; end"), image("load 99; end")} {
		y := x
		var types, in, out []int
		var first []int64
		var l []api.Instr
		y.Types, types = roomy(x.Types, api.TBool, 77)
		y.First, first = roomy(x.First, 0, 77)
		y.In, in = roomy(x.In, 1, 1, 99)
		y.Out, out = roomy(x.Out, 1, 1, 99)
		y.Code, l = roomy(x.Code, api.Instr{Op: api.IEnd}, api.Instr{Op: 77})
		before := []any{slices.Clone(types), slices.Clone(first), slices.Clone(in), slices.Clone(out), slices.Clone(l)}
		m, at, e := vm.New(y)
		n, at2, e2 := vm.New(x)
		if at != at2 || e != e2 || (m == nil) != (n == nil) {
			t.Errorf("%s: %d, %d; %d, %d", brief(x), at, e, at2, e2)
		}
		if m != nil {
			spare := m.Image()
			fill(spare.Code[len(spare.Code):], api.Instr{Op: 78})
			holds(t, m, x, cells, 0, 100)
		}
		if !slices.Equal(types, before[0].([]int)) || !slices.Equal(first, before[1].([]int64)) || !slices.Equal(in, before[2].([]int)) || !slices.Equal(out, before[3].([]int)) || !slices.Equal(l, before[4].([]api.Instr)) {
			t.Errorf("%s: the image is changed", brief(x))
		}
	}
}

// R4: the cells handed in stay, spare room too, and are not kept; what Scan and Trace hand back is the caller's own
func TestCellsStay(t *testing.T) {
	x, cells := kept()
	m := machine(t, x)
	for _, budget := range []int{0, 1, 5, 12, 14, 18, 100} {
		given, whole := roomy(cells, 77, 78, 79)
		before := slices.Clone(whole)
		s, _ := m.Scan(given, 3, budget)
		places, _ := m.Trace(given, 3, budget)
		if !slices.Equal(whole, before) {
			t.Errorf("budget %d: the cells are changed: %v", budget, whole)
		}
		want, again := slices.Clone(s.Cells), slices.Clone(places)
		fill(whole, 1)
		if !slices.Equal(s.Cells, want) || !slices.Equal(places, again) {
			t.Errorf("budget %d: the answer is of the cells' memory", budget)
		}
		two, _ := m.Scan(cells, 3, budget)
		trace, _ := m.Trace(cells, 3, budget)
		fill(s.Cells, -5)
		fill(places, -5)
		if !slices.Equal(two.Cells, want) || !slices.Equal(trace, again) {
			t.Errorf("budget %d: two answers share memory", budget)
		}
		holds(t, m, x, cells, 3, budget)
	}
	first := m.First()
	s, _ := m.Scan(first, 0, 0)
	fill(s.Cells, 1)
	if !slices.Equal(first, x.First) || !slices.Equal(m.First(), x.First) {
		t.Error(first, m.First())
	}
}

// R3: lists without an element, nil or empty
func TestNilAndEmpty(t *testing.T) {
	for _, x := range []api.Image{{Name: "P", Code: instrs("push I 1; end")}, {Name: "P", Types: []int{}, First: []int64{}, In: []int{}, Out: []int{}, Code: instrs("push I 1; end")}} {
		m := machine(t, x)
		for _, cells := range [][]int64{nil, {}} {
			want := ran{places: []int{0, 1}}
			want.Used, want.At = 2, 1
			tells(t, m, cells, 0, 10, want)
			want.places = nil
			want.Used, want.At, want.Trap = 0, 0, api.TBudget
			tells(t, m, cells, 0, 0, want)
		}
		if !sameImage(m.Image(), x) || len(m.First()) > 0 {
			t.Error(m.Image(), m.First())
		}
	}
}

// R7, 16.4: a machine tells the same twice over, whatever it is asked between, and whatever others are asked
func TestMachinesKeepNothing(t *testing.T) {
	r := rand.New(rand.NewSource(161))
	type call struct {
		m      *vm.Machine
		x      api.Image
		cells  []int64
		now    int64
		budget int
		want   ran
	}
	var calls []call
	x, cells := kept()
	for _, y := range []api.Image{x, image("load 2; push D 1; two + D; store 2; call 1 13; jump 0"), image("push I 5; store 1; push I 3; loadx 6 3; end"), image("load 1; load 7; two / I; store 8; end")} {
		m := machine(t, y)
		for _, budget := range []int{0, 3, 4, 11, 12, 20, 3000} {
			for now := int64(0); now < 10; now += 4 {
				calls = append(calls, call{m, y, cells, now, budget, run(y, cells, now, budget)})
				calls = append(calls, call{m, y, y.First, now, budget, run(y, y.First, now, budget)})
			}
		}
	}
	for range 3000 {
		c := calls[r.Intn(len(calls))]
		tells(t, c.m, c.cells, c.now, c.budget, c.want)
	}
	var all sync.WaitGroup
	for range 8 {
		all.Go(func() {
			for _, c := range calls {
				tells(t, c.m, c.cells, c.now, c.budget, c.want)
			}
		})
	}
	all.Wait()
}

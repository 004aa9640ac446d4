package code_test

import (
	"math/rand"
	"slices"
	"strings"
	"testing"

	"capstan/api"
	"capstan/code"
)

// roomy answers the list with room behind it in which these stand, and the whole of that.
func roomy[T any](l []T, behind ...T) (given, whole []T) {
	whole = append(slices.Clone(l), behind...)
	return whole[:len(l)], whole
}

// holdStays holds that each call leaves an image as it is, and what lies behind its lists, and tells the same as of lists without that.
func holdStays(t *testing.T, x api.Image) {
	t.Helper()
	var y, whole api.Image
	y.Name, whole.Name = x.Name, x.Name
	y.Types, whole.Types = roomy(x.Types, api.TInt, api.TInt, api.TBool)
	y.First, whole.First = roomy(x.First, 7, 8, 1)
	y.In, whole.In = roomy(x.In, 1, 1, 99)
	y.Out, whole.Out = roomy(x.Out, 1, 1, 99)
	y.Code, whole.Code = roomy(x.Code, api.Instr{Op: 77}, api.Instr{Op: api.IEnd})
	before := copied(whole)
	at, e := code.Check(y)
	s, f := code.Encode(y)
	if !same(whole, before) {
		t.Fatalf("changed: %s, not %s", brief(whole), brief(before))
	}
	wantAt, wantE := code.Check(x)
	want, wantF := code.Encode(x)
	if at != wantAt || e != wantE || s != want || f != wantF {
		t.Fatalf("%s: with room behind %d, %d, %q, %d; without %d, %d, %q, %d", brief(x), at, e, s, f, wantAt, wantE, want, wantF)
	}
}

// R4: an image that is handed in stays, spare room too, and what lies behind lengths is not read
func TestImageStays(t *testing.T) {
	holdStays(t, every())
	holdStays(t, plain())
	holdStays(t, api.Image{})
	for _, i := range []api.Instr{{Op: api.ILoad, A: 6}, {Op: api.ILoadX, A: 5, B: 2}, {Op: api.IJump, A: 4}, {Op: api.IJump, A: 3}, {Op: api.ICall, A: api.BSr, B: 4}} {
		x := plain()
		x.Code = append(x.Code, i)
		holdStays(t, x)
	}
	for _, types := range []string{"", "B", "BB", "BTBTT"} {
		for kind := range 12 {
			holdStays(t, imageOf(types, api.Instr{Op: api.ICall, A: kind}))
		}
	}
	x := plain()
	x.In = []int{6}
	holdStays(t, x)
	x = plain()
	x.First = x.First[:5]
	holdStays(t, x)
	x = plain()
	x.Types = x.Types[:5]
	holdStays(t, x)
	x = plain()
	x.Code = nil
	holdStays(t, x)
}

// spoil writes over all of a list, spare room too.
func spoil[T any](l []T, with T) {
	l = l[:cap(l)]
	for k := range l {
		l[k] = with
	}
}

// R4: no two lists of an answer share memory, nor do two answers
func TestAnswersAreNew(t *testing.T) {
	for _, want := range []api.Image{every(), plain()} {
		b := encoded(t, want)
		kept, _ := code.Decode(b)
		for n := range 5 {
			x, _ := code.Decode(b)
			left := copied(x)
			switch n {
			case 0:
				spoil(x.Types, 77)
				left.Types = x.Types
			case 1:
				spoil(x.First, 77)
				left.First = x.First
			case 2:
				spoil(x.In, 77)
				left.In = x.In
			case 3:
				spoil(x.Out, 77)
				left.Out = x.Out
			case 4:
				spoil(x.Code, api.Instr{Op: 77})
				left.Code = x.Code
			}
			if !same(x, left) {
				t.Errorf("a change of list %d changes others: %s", n, brief(x))
			}
			if !same(kept, want) {
				t.Errorf("a change of list %d changes another answer: %s", n, brief(kept))
			}
		}
		if again, e := code.Decode(b); e != api.OK || !same(again, want) {
			t.Errorf("told otherwise the second time: %s, %d", brief(again), e)
		}
	}
}

// anyOf answers mostly one of the numbers from -1 to most, and at times an edge.
func anyOf(r *rand.Rand, most int) int {
	if r.Intn(40) == 0 {
		return edges[r.Intn(len(edges))]
	}
	return r.Intn(most+2) - 1
}

// anyImage answers an image that often may be, and often may not.
func anyImage(r *rand.Rand) api.Image {
	types := ""
	for range r.Intn(5) {
		types += []string{"B", "I", "D", "T", "BBB", "BTBTTB", "BBIBIB", "BBBDBI", strings.Repeat("I", 34)}[r.Intn(9)]
	}
	x := imageOf(types)
	for k := range x.First {
		x.First[k] = int64(r.Intn(2))
	}
	if r.Intn(10) == 0 && len(types) > 0 {
		x.First[r.Intn(len(types))] = int64(anyOf(r, 70000))
	}
	if r.Intn(10) == 0 && len(types) > 0 {
		x.Types[r.Intn(len(types))] = anyOf(r, 5)
	}
	lines := r.Perm(len(types))
	cut := r.Intn(len(lines) + 1)
	x.In, x.Out = lines[:cut:cut], lines[cut:]
	if r.Intn(10) == 0 && len(lines) > 0 {
		lines[r.Intn(len(lines))] = anyOf(r, len(types))
	}
	for range r.Intn(8) {
		x.Code = append(x.Code, anyInstr(r, x))
	}
	x.Name = []string{"P", "P", "P", "P", "P", "P", "Q1", "p", "", "IF"}[r.Intn(10)]
	return x
}

// anyInstr answers an instruction that may be in x, or, in one of 25, any.
func anyInstr(r *rand.Rand, x api.Image) api.Instr {
	wild := r.Intn(25) == 0
	for range 200 {
		i := api.Instr{Op: anyOf(r, 13), A: anyOf(r, 17), B: anyOf(r, 5)}
		switch r.Intn(4) {
		case 0:
			i.A = anyOf(r, len(x.Types))
		case 1:
			i.B = anyOf(r, len(x.Types))
		case 2:
			i.B = 0
		}
		if r.Intn(3) == 0 {
			i.N = int64(anyOf(r, 40000))
		}
		if wild || right(x, i) {
			return i
		}
	}
	return api.Instr{Op: api.IEnd}
}

// P1, R7, 13.4: any images; what is encoded is decoded, and each call tells the same again
func TestAnyImages(t *testing.T) {
	r := rand.New(rand.NewSource(14))
	taken := 0
	for range 40000 {
		x := anyImage(r)
		before := copied(x)
		holdCheck(t, x)
		holdCheck(t, x)
		if !same(x, before) {
			t.Fatalf("changed: %s, not %s", brief(x), brief(before))
		}
		s, e := code.Encode(x)
		if e != api.OK {
			continue
		}
		taken++
		if y, f := code.Decode(s); f != api.OK || !same(x, y) {
			t.Fatalf("%s is encoded, and decoded as %s, %d", brief(x), brief(y), f)
		}
	}
	if taken < 2000 {
		t.Errorf("only %d were taken: that says little", taken)
	}
}

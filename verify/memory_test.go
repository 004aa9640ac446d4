package verify_test

import (
	"math/rand"
	"slices"
	"strings"
	"testing"

	"capstan/api"
	"capstan/verify"
)

// some are images of all sorts: right ones, and wrong ones of each kind.
func some() []api.Image {
	l := []api.Image{{}, imageOf("", nil), image("load 99; end")}
	for _, text := range []string{
		"end", "load 0; false 4; push I; store 1; end", "jump 2; end; jump 1", "push I; push D; push T; call 1 13; end", "two + I; end", "push I; push B; two + I; end", "push I", "load 0; false 0", "push I; jump 0", "load 0; false 3; push I; end",
		strings.Repeat("push I; ", 64) + "end", strings.Repeat("push I; ", 65) + "end", "end; push I", "load 36; end", "push I; loadx 33 2; end",
	} {
		l = append(l, image(text))
	}
	x := image("load 1; store 7; end")
	x.In, x.Out = []int{1, 3, 0}, []int{7, 2}
	return append(l, x)
}

// roomy answers the list with room behind it in which these stand, and the whole of that.
func roomy[T any](l []T, behind ...T) (given, whole []T) {
	whole = append(slices.Clone(l), behind...)
	return whole[:len(l)], whole
}

// R4: an image that is handed in stays, spare room too, and what lies behind its lists is not read
func TestImageStays(t *testing.T) {
	for _, x := range some() {
		want := holds(t, x)
		for _, behind := range [][]api.Instr{instrs("end; end"), {{Op: 77}}, instrs("store 0; push I")} {
			y := x
			var types, in, out []int
			var first []int64
			var l []api.Instr
			y.Types, types = roomy(x.Types, api.TBool, api.TInt, 77)
			y.First, first = roomy(x.First, 0, 0, 77)
			y.In, in = roomy(x.In, 1, 1, 99)
			y.Out, out = roomy(x.Out, 1, 1, 99)
			y.Code, l = roomy(x.Code, behind...)
			before := []any{slices.Clone(types), slices.Clone(first), slices.Clone(in), slices.Clone(out), slices.Clone(l)}
			tells(t, y, want)
			if !slices.Equal(types, before[0].([]int)) || !slices.Equal(first, before[1].([]int64)) || !slices.Equal(in, before[2].([]int)) || !slices.Equal(out, before[3].([]int)) || !slices.Equal(l, before[4].([]api.Instr)) {
				t.Errorf("%s: the image is changed", brief(x))
			}
		}
	}
}

// R3: a list without an element may be nil or empty
func TestNilAndEmpty(t *testing.T) {
	x := api.Image{Name: "P", Code: instrs("end")}
	tells(t, x, outcome{reached: "1"})
	x.Types, x.First, x.In, x.Out = []int{}, []int64{}, []int{}, []int{}
	tells(t, x, outcome{reached: "1"})
}

// R4, R7: what Reached hands back is the caller's own, and is told again
func TestReachedIsTheCallersOwn(t *testing.T) {
	for _, x := range some() {
		kept, e := verify.Reached(x)
		want := shown(kept)
		given, _ := verify.Reached(x)
		given = given[:cap(given)]
		for n := range given {
			given[n] = !given[n]
		}
		if len(kept) > 0 && &kept[0] == &given[0] || shown(kept) != want {
			t.Errorf("%s: two answers share memory", brief(x))
		}
		if again, f := verify.Reached(x); shown(again) != want || f != e {
			t.Errorf("%s: %s, %d, then %s, %d", brief(x), want, e, shown(again), f)
		}
		if e == api.OK && len(kept) != len(x.Code) {
			t.Errorf("%s: told of %d", brief(x), len(kept))
		}
	}
}

// R7: the calls tell the same whatever others ask meanwhile, and in whatever order
func TestCallsKeepNothing(t *testing.T) {
	images := some()
	var want []outcome
	for _, x := range images {
		want = append(want, verified(x))
	}
	r := rand.New(rand.NewSource(15))
	for range 2000 {
		n := r.Intn(len(images))
		tells(t, images[n], want[n])
	}
	done := make(chan bool)
	for range 8 {
		go func() {
			for n, x := range images {
				tells(t, x, want[n])
			}
			done <- true
		}()
	}
	for range 8 {
		<-done
	}
}

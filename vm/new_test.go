package vm_test

import (
	"math"
	"slices"
	"strings"
	"testing"

	"capstan/api"
	"capstan/verify"
	"capstan/vm"
)

// refused fails the test unless New refuses x at the place, for this, as Check does.
func refused(t *testing.T, x api.Image, at int, e api.Errno) {
	t.Helper()
	m, gotAt, got := vm.New(x)
	if m != nil || gotAt != at || got != e {
		t.Errorf("%s: a machine %v, %d, %d, not %d, %d", brief(x), m != nil, gotAt, got, at, e)
	}
	if checkAt, check := verify.Check(x); checkAt != at || check != e {
		t.Errorf("%s: Check tells %d, %d", brief(x), checkAt, check)
	}
}

// 16.1: images whose code chapter 15's Check refuses
func TestCodeThatIsRefused(t *testing.T) {
	for _, c := range []struct {
		text string
		at   int
		e    api.Errno
	}{
		{"push B 1", 0, api.ErrJump}, {"push I 5; store 1", 1, api.ErrJump}, {"load 0; false 0", 1, api.ErrJump}, {"jump 2; end; push I 1", 2, api.ErrJump}, {"call 1 13", 0, api.ErrJump},
		{"two + I; end", 0, api.ErrStack}, {"push I 1; two + I; end", 1, api.ErrStack}, {"push I 1; push D 1; two + I; end", 2, api.ErrStack}, {"push I 1; store 2; end", 1, api.ErrStack}, {"push T 1; loadx 6 3; end", 1, api.ErrStack}, {"push I 1; false 0; end", 1, api.ErrStack},
		{"push I 1; jump 0", 0, api.ErrStack}, {"load 0; false 3; push I 1; end", 3, api.ErrStack}, {"push B 1; false 1; end", 1, api.ErrStack}, {"store 1; end", 0, api.ErrStack}, {"one neg I; end", 0, api.ErrStack}, {"push D 1; to I D; end", 1, api.ErrStack},
		{strings.Repeat("push I 1; ", 65) + "end", 64, api.ErrStack},
		{"load 34; end", 0, api.ErrCode}, {"load 0; store -1; end", 1, api.ErrCode}, {"jump 1", 0, api.ErrCode}, {"end; push B 2; end", 1, api.ErrCode}, {"push I 32768; end", 0, api.ErrCode}, {"push I 1; loadx 6 4; end", 1, api.ErrCode}, {"push I 1; loadx 6 0; end", 1, api.ErrCode}, {"call 1 14; end", 0, api.ErrCode}, {"call 0 13; end", 0, api.ErrCode}, {"call 11 13; end", 0, api.ErrCode}, {"end; two / T; end", 1, api.ErrCode}, {"end; to B I; end", 1, api.ErrCode},
		{"two + I; load 34; end", 1, api.ErrCode}, // an image that may not be ahead of a stack that does not fit
	} {
		refused(t, image(c.text), c.at, c.e)
	}
}

// 16.1: images that chapter 13's Check refuses for another reason than an instruction
func TestImagesThatAreRefused(t *testing.T) {
	for _, change := range []func(x *api.Image){
		func(x *api.Image) { *x = api.Image{} },
		func(x *api.Image) { x.Name = "" },
		func(x *api.Image) { x.Name = "IF" },
		func(x *api.Image) { x.Name = "p" },
		func(x *api.Image) { x.Types = x.Types[1:] },
		func(x *api.Image) { x.First = append(x.First, 0) },
		func(x *api.Image) { x.Types[1] = 5 },
		func(x *api.Image) { x.Types[1] = math.MinInt },
		func(x *api.Image) { x.First[0] = 2 },
		func(x *api.Image) { x.First[1] = -32769 },
		func(x *api.Image) { x.In = []int{34} },
		func(x *api.Image) { x.In, x.Out = []int{1}, []int{2, 1} },
		func(x *api.Image) { x.Code = nil },
		func(x *api.Image) { x.Code = slices.Repeat(x.Code, api.MaxCode+1) },
		func(x *api.Image) { x.Types, x.First = slices.Repeat([]int{1}, 1025), make([]int64, 1025) },
	} {
		x := image("end")
		change(&x)
		refused(t, x, -1, api.ErrCode)
	}
}

func sameImage(x, y api.Image) bool {
	return x.Name == y.Name && slices.Equal(x.Types, y.Types) && slices.Equal(x.First, y.First) && slices.Equal(x.In, y.In) && slices.Equal(x.Out, y.Out) && slices.Equal(x.Code, y.Code)
}

// 16.1: what First and Image tell of images that are verified
func TestFirstAndImage(t *testing.T) {
	full := imageOf(strings.Repeat("BIDT", api.MaxCells/4), slices.Repeat(instrs("load 1; store 1021; push D -9; store 1022"), api.MaxCode/4))
	full.Code[api.MaxCode-1] = api.Instr{Op: api.IJump}
	full.Code[api.MaxCode-2] = api.Instr{Op: api.IEnd}
	for n, y := range full.Types {
		full.First[n] = spans[y][n/4%2]
		full.In = append(full.In, n)
	}
	full.Out, full.In = full.In[500:], full.In[:500]
	named := image("load 1; store 7; end")
	named.Name, named.In, named.Out = "A234567890123456789012_4", []int{3, 1}, []int{7, 0, 2}
	copy(named.First, []int64{1, -32768, 2147483647, -2147483648, 0, 1, 32767})
	none := api.Image{Name: "P", Types: []int{}, First: []int64{}, In: []int{}, Out: []int{}, Code: instrs("end")}
	for _, x := range []api.Image{image("end"), imageOf("", instrs("end")), none, full, named, image("jump 0"), image("end; push I 1")} {
		m := machine(t, x)
		if got := m.Image(); !sameImage(got, x) {
			t.Errorf("%s: %.600v", brief(x), got)
		}
		if got := m.First(); !slices.Equal(got, x.First) {
			t.Errorf("%s: %.600v", brief(x), got)
		}
		holds(t, m, x, x.First, 0, 50)
	}
}

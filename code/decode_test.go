package code_test

import (
	"math"
	"math/rand"
	"slices"
	"strings"
	"testing"

	"capstan/api"
	"capstan/code"
)

// refusesBytes holds that b is no image's bytes.
func refusesBytes(t *testing.T, b string) {
	t.Helper()
	if x, e := code.Decode(b); !isNothing(x) || e != api.ErrCode {
		t.Errorf("Decode of %.600q: %s, %d, not ErrCode", b, brief(x), e)
	}
}

// 13.2: bytes that are no list
func TestNoLists(t *testing.T) {
	for _, b := range []string{"", "\x00", "\x00\x00", "\x00\x01", "\x00\x01$", "\x00\x01$\x00\x01", "\xff\xff", "x", strings.Repeat("x", 100), strings.Repeat("\x00", 100)} {
		refusesBytes(t, b)
	}
	b := encoded(t, every())
	refusesBytes(t, b+strings.Repeat("\x00", api.MaxBytes-len(b)))
	refusesBytes(t, b+strings.Repeat("\x00", api.MaxBytes-len(b)+1))
	refusesBytes(t, strings.Repeat(b, 200))
}

// 13.2: each beginning, each end, and a byte more
func TestCutAndLonger(t *testing.T) {
	for _, x := range []api.Image{every(), plain()} {
		b := encoded(t, x)
		for at := range b {
			refusesBytes(t, b[:at])
			refusesBytes(t, b[:at]+b[at+1:])
			if at > 0 {
				refusesBytes(t, b[at:])
			}
		}
		for c := range 256 {
			refusesBytes(t, b+string([]byte{byte(c)}))
			refusesBytes(t, string([]byte{byte(c)})+b)
		}
	}
}

// 13.2: each byte made another one; what is still an image has just these bytes
func TestChangedBytes(t *testing.T) {
	b := encoded(t, plain())
	taken := 0
	for at := range b {
		for c := range 256 {
			changed := b[:at] + string([]byte{byte(c)}) + b[at+1:]
			holdDecode(t, changed)
			if x, e := code.Decode(changed); e == api.OK {
				taken++
				if encoded(t, x) != changed {
					t.Fatalf("%q is decoded, and encoded otherwise", changed)
				}
			}
		}
	}
	if taken <= len(b) {
		t.Errorf("only %d were taken: that says nothing", taken)
	}
}

// 13.2: lists of other items: one out, one twice, one of the other kind, one of another number, two turned about
func TestOtherItems(t *testing.T) {
	for _, x := range []api.Image{every(), plain(), imageOf("", api.Instr{Op: api.IEnd})} {
		l := items(x)
		holdDecode(t, list(l...))
		for at := range l {
			holdDecode(t, list(slices.Delete(slices.Clone(l), at, at+1)...)) // with one out, another image may be told
			holdDecode(t, list(slices.Insert(slices.Clone(l), at, l[at])...))
			holdDecode(t, list(slices.Insert(slices.Clone(l), at, number(0))...))
			refusesBytes(t, list(slices.Insert(slices.Clone(l), at, text(""))...))
			with := func(item string) string {
				changed := slices.Clone(l)
				changed[at] = item
				return list(changed...)
			}
			if strings.HasPrefix(l[at], "$") {
				refusesBytes(t, with(number(0)))
				refusesBytes(t, with(number(1)))
			} else {
				refusesBytes(t, with(text("")))
				refusesBytes(t, with(text("\x00")))
				refusesBytes(t, with(text("P")))
			}
			for _, n := range append([]int{0, 1, 2, 3, 4, 5, 6, 54, 55, 56}, edges...) {
				holdDecode(t, with(number(int64(n))))
			}
			for other := range at {
				changed := slices.Clone(l)
				changed[at], changed[other] = changed[other], changed[at]
				holdDecode(t, list(changed...))
			}
		}
		refusesBytes(t, list(append(slices.Clone(l), number(0))...))
		refusesBytes(t, list(append(slices.Clone(l), text(""))...))
	}
}

// 13.2: how many cells, In and Out are told, and other numbers in their place
func TestOtherCounts(t *testing.T) {
	x := plain()
	end := text(instr(api.Instr{Op: api.IEnd}))
	for _, n := range append([]int{1, 2, 7, 994, 995, 996, 999, 1000, 1001}, edges...) {
		m := number(int64(n))
		refusesBytes(t, list(text("P"), m, number(0), number(0), end))
		refusesBytes(t, list(text("P"), number(0), m, number(0), end))
		refusesBytes(t, list(text("P"), number(0), number(0), m, end))
		refusesBytes(t, list(text("P"), m))
		refusesBytes(t, list(m))
	}
	holdDecode(t, list(text("P"), number(0), number(0), number(0), end))
	// what is told of In too few is not taken for Out
	l := items(x)
	l[14] = number(1)
	holdDecode(t, list(l...))
	refusesBytes(t, list(l...))
}

// 13.2: more than 1000 items, though what they say would be an image
func TestMoreThanMayBe(t *testing.T) {
	for many := 490; many < 510; many++ {
		x := imageOf(strings.Repeat("I", many), api.Instr{Op: api.IEnd})
		b := list(items(x)...)
		holdDecode(t, b)
		if _, e := code.Decode(b); (e == api.OK) != (many <= 497) {
			t.Errorf("%d cells: %d", many, e)
		}
	}
}

// 13.2: lengths of code that are not whole instructions, none, one too many
func TestLengthsOfCode(t *testing.T) {
	whole := strings.Repeat(instr(api.Instr{Op: api.IEnd}), 5)
	for long := range len(whole) + 1 {
		b := list(text("P"), number(0), number(0), number(0), text(whole[:long]))
		holdDecode(t, b)
		if x, e := code.Decode(b); (e == api.OK) != (long > 0 && long%11 == 0) || e == api.OK && len(x.Code) != long/11 {
			t.Errorf("%d bytes: %s, %d", long, brief(x), e)
		}
	}
	for _, many := range []int{api.MaxCode - 1, api.MaxCode, api.MaxCode + 1} {
		b := list(text("P"), number(0), number(0), number(0), text(strings.Repeat(whole[:11], many)))
		holdDecode(t, b)
		if _, e := code.Decode(b); (e == api.OK) != (many <= api.MaxCode) {
			t.Errorf("%d instructions: %d", many, e)
		}
	}
}

// 13.2: bytes of images that may not be
func TestBytesOfWhatMayNotBe(t *testing.T) {
	for _, change := range []func(x *api.Image){
		func(x *api.Image) { x.Name = "" },
		func(x *api.Image) { x.Name = "p" },
		func(x *api.Image) { x.Name = "IF" },
		func(x *api.Image) { x.Name = strings.Repeat("A", 25) },
		func(x *api.Image) { x.Types[0] = 0 },
		func(x *api.Image) { x.Types[0] = 5 },
		func(x *api.Image) { x.Types[0] = math.MaxInt },
		func(x *api.Image) { x.First[0] = 2 },
		func(x *api.Image) { x.First[1] = 40000 },
		func(x *api.Image) { x.In[0] = 6 },
		func(x *api.Image) { x.In[0] = -1 },
		func(x *api.Image) { x.In[1] = x.In[0] },
		func(x *api.Image) { x.Out[1] = x.In[0] },
		func(x *api.Image) { x.Code = nil },
		func(x *api.Image) { x.Code[0].Op = 0 },
		func(x *api.Image) { x.Code[0].Op = 13 },
		func(x *api.Image) { x.Code[0].A = 6 },
		func(x *api.Image) { x.Code[0].A = -1 },
		func(x *api.Image) { x.Code[0].B = 1 },
		func(x *api.Image) { x.Code[0].N = 1 },
		func(x *api.Image) { x.Code[2].A = 1 },
	} {
		x := plain()
		change(&x)
		refusesBytes(t, list(items(x)...))
		holdDecode(t, list(items(x)...))
	}
}

// P1, 13.2: bytes put together of pieces of images, and any bytes
func TestAnyBytes(t *testing.T) {
	r := rand.New(rand.NewSource(13))
	b := []byte(encoded(t, every()))
	for range 30000 {
		c := slices.Clone(b)
		for range r.Intn(4) {
			from, to := r.Intn(len(c)), r.Intn(len(c))
			switch r.Intn(4) {
			case 0:
				c[from] = byte(r.Intn(256))
			case 1:
				copy(c[from:], c[to:])
			case 2:
				c = append(c[:min(from, to)], c[max(from, to):]...)
			case 3:
				c = slices.Insert(c, from, c[min(from, to):max(from, to)]...)
			}
			if len(c) == 0 {
				break
			}
		}
		holdDecode(t, string(c))
	}
	for range 30000 {
		c := make([]byte, r.Intn(60))
		for k := range c {
			c[k] = "\x00\x00\x00\x01\x02#$\xff"[r.Intn(8)]
		}
		holdDecode(t, string(c))
	}
}

package code_test

import (
	"math"
	"slices"
	"strings"
	"testing"

	"capstan/api"
	"capstan/code"
)

// every answers an image with each Op, and numbers below 0 among its values.
func every() api.Image {
	x := imageOf(laid,
		api.Instr{Op: api.IPush, A: api.TInt, N: -5}, api.Instr{Op: api.ILoad, A: 54}, api.Instr{Op: api.IStore, A: 3},
		api.Instr{Op: api.ILoadX, A: 22, B: 32}, api.Instr{Op: api.IStoreX, A: 23, B: 2}, api.Instr{Op: api.ITwo, A: api.NGe, B: api.TTime},
		api.Instr{Op: api.IOne, A: api.NNot, B: api.TBool}, api.Instr{Op: api.ITo, A: api.TTime, B: api.TDint}, api.Instr{Op: api.IJump, A: 11},
		api.Instr{Op: api.IFalse, A: 1}, api.Instr{Op: api.ICall, A: api.BQuad, B: 15}, api.Instr{Op: api.IEnd})
	x.Name = "EVERY_1"
	x.First[1], x.First[18], x.First[20], x.First[54] = math.MinInt32, math.MaxInt32, -32768, -1
	x.In, x.Out = []int{54, 0, 7}, []int{1, 53}
	return x
}

func encoded(t *testing.T, x api.Image) string {
	t.Helper()
	s, e := code.Encode(x)
	if e != api.OK {
		t.Fatalf("Encode of %s: %d", brief(x), e)
	}
	return s
}

// 13.2: bytes, written out
func TestBytesWrittenOut(t *testing.T) {
	x := api.Image{Name: "AB", Types: []int{1, 3}, First: []int64{1, -2}, In: []int{1}, Code: []api.Instr{{Op: 1, A: 3, N: -70000}, {Op: 5, A: 1, B: 1}, {Op: 9, A: 2}}}
	want := "\x00\x0a" + // ten items
		"$\x00\x02AB" +
		"#\x00\x00\x00\x00\x00\x00\x00\x02" + // two cells
		"#\x00\x00\x00\x00\x00\x00\x00\x01" + "#\x00\x00\x00\x00\x00\x00\x00\x01" +
		"#\x00\x00\x00\x00\x00\x00\x00\x03" + "#\xff\xff\xff\xff\xff\xff\xff\xfe" +
		"#\x00\x00\x00\x00\x00\x00\x00\x01" + "#\x00\x00\x00\x00\x00\x00\x00\x01" + // one In: 1
		"#\x00\x00\x00\x00\x00\x00\x00\x00" + // no Out
		"$\x00\x21" +
		"\x01\x00\x03\x00\x00\xff\xff\xff\xfe\xee\x90" +
		"\x05\x00\x01\x00\x01\x00\x00\x00\x00\x00\x00" +
		"\x09\x00\x02\x00\x00\x00\x00\x00\x00\x00\x00"
	if got := encoded(t, x); got != want {
		t.Errorf("%q, not %q", got, want)
	}
	if y, e := code.Decode(want); e != api.OK || !same(x, y) {
		t.Errorf("%s, %d", brief(y), e)
	}
}

// 13.2: A and B of two bytes, N of six
func TestBytesOfInstructions(t *testing.T) {
	x := imageOf(strings.Repeat("B", 400))
	x.Code = slices.Repeat([]api.Instr{{Op: api.IEnd}}, api.MaxCode)
	for _, c := range []struct {
		i    api.Instr
		want string
	}{
		{api.Instr{Op: api.IJump, A: 255}, "\x09\x00\xff\x00\x00\x00\x00\x00\x00\x00\x00"},
		{api.Instr{Op: api.IJump, A: 256}, "\x09\x01\x00\x00\x00\x00\x00\x00\x00\x00\x00"},
		{api.Instr{Op: api.IFalse, A: 0xabc}, "\x0a\x0a\xbc\x00\x00\x00\x00\x00\x00\x00\x00"},
		{api.Instr{Op: api.IFalse, A: 4095}, "\x0a\x0f\xff\x00\x00\x00\x00\x00\x00\x00\x00"},
		{api.Instr{Op: api.ICall, A: api.BRs, B: 397}, "\x0b\x00\x09\x01\x8d\x00\x00\x00\x00\x00\x00"},
		{api.Instr{Op: api.ILoadX, A: 300, B: 32}, "\x04\x01\x2c\x00\x20\x00\x00\x00\x00\x00\x00"},
		{api.Instr{Op: api.ILoad, A: 399}, "\x02\x01\x8f\x00\x00\x00\x00\x00\x00\x00\x00"},
		{api.Instr{Op: api.IPush, A: api.TDint, N: math.MinInt32}, "\x01\x00\x03\x00\x00\xff\xff\x80\x00\x00\x00"},
		{api.Instr{Op: api.IPush, A: api.TTime, N: math.MaxInt32}, "\x01\x00\x04\x00\x00\x00\x00\x7f\xff\xff\xff"},
		{api.Instr{Op: api.IPush, A: api.TInt, N: -1}, "\x01\x00\x02\x00\x00\xff\xff\xff\xff\xff\xff"},
		{api.Instr{Op: api.IPush, A: api.TInt, N: 0x1234}, "\x01\x00\x02\x00\x00\x00\x00\x00\x00\x12\x34"},
		{api.Instr{Op: api.IPush, A: api.TDint, N: 0x12345678}, "\x01\x00\x03\x00\x00\x00\x00\x12\x34\x56\x78"},
	} {
		x.Code[api.MaxCode-1] = c.i
		b := encoded(t, x)
		if got := b[len(b)-11:]; got != c.want {
			t.Errorf("%v: %q, not %q", c.i, got, c.want)
		}
		if y, e := code.Decode(b); e != api.OK || !same(x, y) {
			t.Errorf("%v: decoded otherwise, %d", c.i, e)
		}
	}
}

// 13.2, 13.4: of images with each Op, and of others, item by item
func TestBytesItemByItem(t *testing.T) {
	for _, x := range []api.Image{every(), plain(), imageOf("", api.Instr{Op: api.IEnd})} {
		got, want := encoded(t, x), list(items(x)...)
		if got != want {
			t.Errorf("%s: %q, not %q", brief(x), got, want)
		}
		if y, e := code.Decode(got); e != api.OK || !same(x, y) {
			t.Errorf("%s, not %s, %d", brief(y), brief(x), e)
		}
		holdDecode(t, got)
	}
}

// 13.2: ErrLong just where there are more than 1000 items
func TestTooManyItems(t *testing.T) {
	for many := 480; many <= 510; many++ {
		for in := range 40 {
			for _, out := range []int{0, 1, 2, 17} {
				x := imageOf(strings.Repeat("I", many), api.Instr{Op: api.IEnd})
				for c := range in {
					x.In = append(x.In, c)
				}
				for c := range out {
					x.Out = append(x.Out, in+c)
				}
				s, e := code.Encode(x)
				if 5+2*many+in+out > 1000 {
					if s != "" || e != api.ErrLong {
						t.Fatalf("%d cells, %d in, %d out: %d bytes, %d, not ErrLong", many, in, out, len(s), e)
					}
					continue
				}
				if y, f := code.Decode(s); e != api.OK || f != api.OK || !same(x, y) {
					t.Fatalf("%d cells, %d in, %d out: %d, %d", many, in, out, e, f)
				}
			}
		}
	}
	x := imageOf(strings.Repeat("I", api.MaxCells), api.Instr{Op: api.IEnd})
	if s, e := code.Encode(x); s != "" || e != api.ErrLong {
		t.Errorf("MaxCells: %d bytes, %d", len(s), e)
	}
	x.Code[0].A = 1 // what may not be is told ahead of what is too long
	refuses(t, x, 0)
}

// 13.2, 13.4: the longest code with the most items has no more bytes than chapter 3 takes
func TestLongest(t *testing.T) {
	x := imageOf(strings.Repeat("D", 497))
	x.Name = strings.Repeat("Z", api.MaxName)
	x.In = []int{496}
	for n := range api.MaxCode {
		x.Code = append(x.Code, api.Instr{Op: api.IPush, A: api.TDint, N: int64(n)*524287 - 1<<30})
	}
	b := encoded(t, x)
	if b != list(items(x)...) {
		t.Error("other bytes")
	}
	if y, e := code.Decode(b); e != api.OK || !same(x, y) {
		t.Errorf("decoded otherwise, %d", e)
	}
}

// 13.2: numbers that have no signed 48 bits, and those that have them but do not fit
func TestNumbersOfOtherSizes(t *testing.T) {
	x := imageOf("D", api.Instr{Op: api.IPush, A: api.TDint})
	for _, n := range []int64{1<<47 - 1, 1 << 47, 1<<47 + 1, 1<<48 - 1, 1 << 48, 1<<48 + 5, -1 << 47, -1<<47 - 1, -1 << 48, -1<<48 + 5, 1 << 31, -1<<31 - 1, math.MinInt64, math.MaxInt64} {
		x.Code[0].N = n
		refuses(t, x, 0)
	}
	head := list(items(x)...)
	head = head[:len(head)-6]
	for _, c := range []struct {
		six  string
		n    int64
		want api.Errno
	}{
		{"\x00\x00\x00\x00\x00\x00", 0, api.OK},
		{"\x00\x00\x00\x00\x00\x05", 5, api.OK},
		{"\xff\xff\xff\xff\xff\xfb", -5, api.OK},
		{"\x00\x00\x7f\xff\xff\xff", math.MaxInt32, api.OK},
		{"\xff\xff\x80\x00\x00\x00", math.MinInt32, api.OK},
		{"\x00\x00\x80\x00\x00\x00", 0, api.ErrCode},
		{"\xff\xff\x7f\xff\xff\xff", 0, api.ErrCode},
		{"\x00\x00\xff\xff\xff\xfb", 0, api.ErrCode},
		{"\x7f\xff\xff\xff\xff\xff", 0, api.ErrCode},
		{"\x80\x00\x00\x00\x00\x00", 0, api.ErrCode},
		{"\x80\x00\x00\x00\x00\x05", 0, api.ErrCode},
		{"\x00\x01\x00\x00\x00\x00", 0, api.ErrCode},
		{"\x00\xff\xff\xff\xff\xff", 0, api.ErrCode},
		{"\xff\x00\x00\x00\x00\x00", 0, api.ErrCode},
	} {
		y, e := code.Decode(head + c.six)
		if e != c.want || e == api.OK && y.Code[0].N != c.n || e != api.OK && !isNothing(y) {
			t.Errorf("%q: %s, %d", c.six, brief(y), e)
		}
		holdDecode(t, head+c.six)
	}
}

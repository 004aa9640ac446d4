package code

import (
	"math"
	"testing"

	"capstan/api"
)

// 13.2: N is told modulo 2^48, and read as a number of signed 48 bits. No image that may be has an N at the edges, so this is asked of a single instruction.
func TestNumbersThereAndBack(t *testing.T) {
	for _, c := range []struct {
		n, back int64
		six     string
	}{
		{0, 0, "\x00\x00\x00\x00\x00\x00"},
		{1, 1, "\x00\x00\x00\x00\x00\x01"},
		{-1, -1, "\xff\xff\xff\xff\xff\xff"},
		{0x123456789abc, 0x123456789abc, "\x12\x34\x56\x78\x9a\xbc"},
		{1<<47 - 1, 1<<47 - 1, "\x7f\xff\xff\xff\xff\xff"},
		{1 << 47, -1 << 47, "\x80\x00\x00\x00\x00\x00"},
		{-1 << 47, -1 << 47, "\x80\x00\x00\x00\x00\x00"},
		{-1<<47 - 1, 1<<47 - 1, "\x7f\xff\xff\xff\xff\xff"},
		{-1<<47 + 1, -1<<47 + 1, "\x80\x00\x00\x00\x00\x01"},
		{1<<48 - 1, -1, "\xff\xff\xff\xff\xff\xff"},
		{1 << 48, 0, "\x00\x00\x00\x00\x00\x00"},
		{1<<48 + 5, 5, "\x00\x00\x00\x00\x00\x05"},
		{-1 << 48, 0, "\x00\x00\x00\x00\x00\x00"},
		{math.MaxInt64, -1, "\xff\xff\xff\xff\xff\xff"},
		{math.MinInt64, 0, "\x00\x00\x00\x00\x00\x00"},
	} {
		b := string(appendInstr(nil, api.Instr{Op: api.IPush, A: 0xabcd, B: 0x0102, N: c.n}))
		if want := "\x01\xab\xcd\x01\x02" + c.six; b != want {
			t.Errorf("%d: %q, not %q", c.n, b, want)
		}
		if i := instrOf(b); i != (api.Instr{Op: api.IPush, A: 0xabcd, B: 0x0102, N: c.back}) {
			t.Errorf("%d: %v back, not %d", c.n, i, c.back)
		}
	}
}

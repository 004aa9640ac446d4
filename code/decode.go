package code

import (
	"capstan/api"
	"capstan/wire"
)

// Decode answers the image whose bytes are b; ErrCode, if there is none.
//
// What is read out of b is a guess as good as b allows: only if its bytes are just b, it is the image, so the reader itself need refuse nothing.
func Decode(b string) (api.Image, api.Errno) {
	items, f := wire.Decode(b)
	if f.Code != api.OK {
		return api.Image{}, api.ErrCode
	}
	x := imageOf(items)
	if again, e := Encode(x); e != api.OK || again != b {
		return api.Image{}, api.ErrCode
	}
	return x, api.OK
}

// reader takes the items of a list from its front on; behind the last one it takes items of nothing.
type reader struct {
	items []api.Item
}

func imageOf(items []api.Item) api.Image {
	r := &reader{items}
	x := api.Image{Name: r.next().S}
	for range r.count() {
		x.Types = append(x.Types, int(r.next().N))
		x.First = append(x.First, r.next().N)
	}
	x.In = r.lines()
	x.Out = r.lines()
	x.Code = codeOf(r.next().S)
	return x
}

func (r *reader) next() api.Item {
	if len(r.items) == 0 {
		return api.Item{}
	}
	item := r.items[0]
	r.items = r.items[1:]
	return item
}

// count takes how many of something there are: never more than items are left, whatever the number says.
func (r *reader) count() int {
	many := r.next().N
	return int(min(max(many, 0), int64(len(r.items))))
}

func (r *reader) lines() []int {
	var cells []int
	for range r.count() {
		cells = append(cells, int(r.next().N))
	}
	return cells
}

// codeOf answers the whole instructions of a text.
func codeOf(text string) []api.Instr {
	var code []api.Instr
	for ; len(text) >= instrBytes; text = text[instrBytes:] {
		code = append(code, instrOf(text))
	}
	return code
}

// instrOf answers the instruction with which the text begins.
func instrOf(text string) api.Instr {
	const a, b, n = 1, 1 + pairBytes, 1 + 2*pairBytes
	return api.Instr{
		Op: int(text[0]),
		A:  int(higherFirst(text[a:b])),
		B:  int(higherFirst(text[b:n])),
		N:  signed(higherFirst(text[n:instrBytes])),
	}
}

func higherFirst(text string) uint64 {
	n := uint64(0)
	for k := range len(text) {
		n = n<<8 | uint64(text[k])
	}
	return n
}

// signed answers the number of signed 48 bits that is n modulo 2^48: its highest bit goes on in all those ahead of it.
func signed(n uint64) int64 {
	const ahead = 64 - 8*numberBytes
	return int64(n<<ahead) >> ahead
}

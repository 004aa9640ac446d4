package code

import (
	"capstan/api"
	"capstan/wire"
)

const (
	// pairBytes is how many bytes A and B have each.
	pairBytes   = 2
	numberBytes = 6
	instrBytes  = 1 + 2*pairBytes + numberBytes
)

// Encode answers the bytes of x; ErrCode, if it may not be, ErrLong, if it has more than a list can have.
func Encode(x api.Image) (string, api.Errno) {
	if _, e := Check(x); e != api.OK {
		return "", e
	}
	return wire.Encode(itemsOf(x))
}

func itemsOf(x api.Image) []api.Item {
	items := []api.Item{{Text: true, S: x.Name}}
	items = appendCount(items, len(x.Types))
	for cell, t := range x.Types {
		items = append(items, api.Item{N: int64(t)}, api.Item{N: x.First[cell]})
	}
	items = appendLines(items, x.In)
	items = appendLines(items, x.Out)
	return append(items, api.Item{Text: true, S: codeText(x.Code)})
}

func appendCount(items []api.Item, many int) []api.Item {
	return append(items, api.Item{N: int64(many)})
}

func appendLines(items []api.Item, cells []int) []api.Item {
	items = appendCount(items, len(cells))
	for _, cell := range cells {
		items = append(items, api.Item{N: int64(cell)})
	}
	return items
}

func codeText(code []api.Instr) string {
	b := make([]byte, 0, len(code)*instrBytes)
	for _, i := range code {
		b = appendInstr(b, i)
	}
	return string(b)
}

func appendInstr(b []byte, i api.Instr) []byte {
	b = append(b, byte(i.Op))
	b = appendHigherFirst(b, int64(i.A), pairBytes)
	b = appendHigherFirst(b, int64(i.B), pairBytes)
	return appendHigherFirst(b, i.N, numberBytes)
}

// appendHigherFirst appends the lowest bytes of n, as many as are asked for: so n is told modulo a power of 2.
func appendHigherFirst(b []byte, n int64, many int) []byte {
	for k := many - 1; k >= 0; k-- {
		b = append(b, byte(n>>(8*k)))
	}
	return b
}

package verify

import (
	"math/bits"

	"capstan/api"
)

const wordBits = 64

// places is a set of places in code: a bit for each, the least one first.
type places [api.MaxCode / wordBits]uint64

func (p *places) add(at int) {
	p[at/wordBits] |= 1 << (at % wordBits)
}

// takeLeast takes the least place out, or answers false, if there is none.
func (p *places) takeLeast() (at int, there bool) {
	for n, word := range p {
		if word != 0 {
			p[n] = word & (word - 1) // without its lowest bit
			return n*wordBits + bits.TrailingZeros64(word), true
		}
	}
	return 0, false
}

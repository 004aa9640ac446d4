// Package sha is layer 1, SHA-256 written out: see shared/doc/01-sha.md.
package sha

import (
	"math/bits"

	"capstan/api"
)

const (
	blockBytes  = 64
	digestBytes = 32
	// lengthAt is where a padded message's last block holds the number of bits.
	lengthAt = blockBytes - 8
	// maxLength is how many bytes one hash may be given.
	maxLength int64 = 1 << 40
)

const hexDigits = "0123456789abcdef"

// roundConstants are the first 32 bits of the fractions of the cube roots of the first 64 primes.
var roundConstants = [64]uint32{
	0x428a2f98, 0x71374491, 0xb5c0fbcf, 0xe9b5dba5, 0x3956c25b, 0x59f111f1, 0x923f82a4, 0xab1c5ed5,
	0xd807aa98, 0x12835b01, 0x243185be, 0x550c7dc3, 0x72be5d74, 0x80deb1fe, 0x9bdc06a7, 0xc19bf174,
	0xe49b69c1, 0xefbe4786, 0x0fc19dc6, 0x240ca1cc, 0x2de92c6f, 0x4a7484aa, 0x5cb0a9dc, 0x76f988da,
	0x983e5152, 0xa831c66d, 0xb00327c8, 0xbf597fc7, 0xc6e00bf3, 0xd5a79147, 0x06ca6351, 0x14292967,
	0x27b70a85, 0x2e1b2138, 0x4d2c6dfc, 0x53380d13, 0x650a7354, 0x766a0abb, 0x81c2c92e, 0x92722c85,
	0xa2bfe8a1, 0xa81a664b, 0xc24b8b70, 0xc76c51a3, 0xd192e819, 0xd6990624, 0xf40e3585, 0x106aa070,
	0x19a4c116, 0x1e376c08, 0x2748774c, 0x34b0bcb5, 0x391c0cb3, 0x4ed8aa4a, 0x5b9cca4f, 0x682e6ff3,
	0x748f82ee, 0x78a5636f, 0x84c87814, 0x8cc70208, 0x90befffa, 0xa4506ceb, 0xbef9a3f7, 0xc67178f2,
}

// Hash is what has been written so far. All its fields are values, so that
// a plain copy of it goes its own way.
type Hash struct {
	state [8]uint32
	// tail begins with the length % blockBytes bytes that fill no block yet.
	tail   [blockBytes]byte
	length int64
}

// New answers a hash of no bytes.
func New() *Hash {
	return &Hash{state: [8]uint32{
		0x6a09e667, 0xbb67ae85, 0x3c6ef372, 0xa54ff53a,
		0x510e527f, 0x9b05688c, 0x1f83d9ab, 0x5be0cd19,
	}}
}

// Write puts b behind what was written; ErrLong, if that were more than 2^40 bytes.
func (h *Hash) Write(b string) api.Errno {
	if int64(len(b)) > maxLength-h.length {
		return api.ErrLong
	}
	h.add(b)
	return api.OK
}

// Sum answers the digest of all that was written, and changes nothing.
func (h *Hash) Sum() string {
	return digest(finish(*h))
}

// Len answers how many bytes were written.
func (h *Hash) Len() int {
	return int(h.length)
}

// Fork answers another hash that has what this one has.
func (h *Hash) Fork() *Hash {
	fork := *h
	return &fork
}

// Sum answers the digest of b.
func Sum(b string) string {
	// Not by Write: a text of any length has a digest.
	h := New()
	h.add(b)
	return h.Sum()
}

// Hex answers each byte of b as two digits, the higher half first.
func Hex(b string) string {
	out := make([]byte, 0, 2*len(b))
	for i := range len(b) {
		out = append(out, hexDigits[b[i]>>4], hexDigits[b[i]&15])
	}
	return string(out)
}

// add takes b in, block by block, without looking at the limit.
func (h *Hash) add(b string) {
	for len(b) > 0 {
		used := int(h.length % blockBytes)
		n := copy(h.tail[used:], b)
		h.length += int64(n)
		b = b[n:]
		if used+n == blockBytes {
			h.state = takeIn(h.state, h.tail)
		}
	}
}

// finish pads what was written and takes the padding in. It works on a copy
// of the hash, so that asking for a sum leaves the hash as it was.
func finish(h Hash) [8]uint32 {
	used := int(h.length % blockBytes)
	h.tail[used] = 128
	for i := used + 1; i < blockBytes; i++ {
		h.tail[i] = 0
	}
	if used >= lengthAt {
		// The number of bits has no room behind the byte 128: it takes a block more.
		h.state = takeIn(h.state, h.tail)
		h.tail = [blockBytes]byte{}
	}
	count := uint64(h.length) * 8
	for i := lengthAt; i < blockBytes; i++ {
		h.tail[i] = byte(count >> (8 * (blockBytes - 1 - i)))
	}
	return takeIn(h.state, h.tail)
}

// digest writes the words one behind the other, the highest bytes first.
func digest(state [8]uint32) string {
	var out [digestBytes]byte
	for i, word := range state {
		out[4*i] = byte(word >> 24)
		out[4*i+1] = byte(word >> 16)
		out[4*i+2] = byte(word >> 8)
		out[4*i+3] = byte(word)
	}
	return string(out[:])
}

// takeIn answers the state behind a block.
func takeIn(state [8]uint32, block [blockBytes]byte) [8]uint32 {
	w := schedule(block)
	a, b, c, d := state[0], state[1], state[2], state[3]
	e, f, g, h := state[4], state[5], state[6], state[7]
	for t := range w {
		t1 := h + bigSigma1(e) + ((e & f) ^ (^e & g)) + roundConstants[t] + w[t]
		t2 := bigSigma0(a) + ((a & b) ^ (a & c) ^ (b & c))
		h, g, f, e = g, f, e, d+t1
		d, c, b, a = c, b, a, t1+t2
	}
	return [8]uint32{
		state[0] + a, state[1] + b, state[2] + c, state[3] + d,
		state[4] + e, state[5] + f, state[6] + g, state[7] + h,
	}
}

// schedule answers the 64 words that a block's rounds use.
func schedule(block [blockBytes]byte) [64]uint32 {
	var w [64]uint32
	for t := range 16 {
		w[t] = uint32(block[4*t])<<24 | uint32(block[4*t+1])<<16 | uint32(block[4*t+2])<<8 | uint32(block[4*t+3])
	}
	for t := 16; t < len(w); t++ {
		w[t] = smallSigma1(w[t-2]) + w[t-7] + smallSigma0(w[t-15]) + w[t-16]
	}
	return w
}

func smallSigma0(x uint32) uint32 {
	return rotateRight(x, 7) ^ rotateRight(x, 18) ^ (x >> 3)
}

func smallSigma1(x uint32) uint32 {
	return rotateRight(x, 17) ^ rotateRight(x, 19) ^ (x >> 10)
}

func bigSigma0(x uint32) uint32 {
	return rotateRight(x, 2) ^ rotateRight(x, 13) ^ rotateRight(x, 22)
}

func bigSigma1(x uint32) uint32 {
	return rotateRight(x, 6) ^ rotateRight(x, 11) ^ rotateRight(x, 25)
}

func rotateRight(x uint32, n int) uint32 {
	return bits.RotateLeft32(x, -n)
}

package sha

import (
	"crypto/sha256"
	"encoding"
	"encoding/binary"
	"testing"

	"capstan/api"
)

// hashOfLength answers a hash as if n bytes had been written: nobody can wait
// until 2^40 bytes are.
func hashOfLength(n int64) *Hash {
	h := New()
	h.length = n
	return h
}

// 1.2: ErrLong, if there would be more than 2^40 bytes
func TestWriteStopsAtLimit(t *testing.T) {
	const limit = 1 << 40
	h := hashOfLength(limit - 3)
	before := *h
	if e := h.Write("abcd"); e != api.ErrLong {
		t.Fatalf("one byte too many: %d", e)
	}
	if *h != before {
		t.Error("a refused write changed the hash")
	}
	if e := h.Write("abc"); e != api.OK || h.Len() != limit {
		t.Fatalf("up to the limit: %d, Len %d", e, h.Len())
	}
	before = *h
	if e := h.Write("x"); e != api.ErrLong || *h != before {
		t.Errorf("a byte behind the limit: %d", e)
	}
	if e := h.Write(""); e != api.OK || *h != before {
		t.Errorf("no byte at the limit: %d", e)
	}
}

// 1.2: what a fork has counts for its limit, and its writes not for the first hash's
func TestForkHasItsOwnLimit(t *testing.T) {
	h := hashOfLength(1<<40 - 1)
	f := h.Fork()
	if e := f.Write("x"); e != api.OK {
		t.Fatalf("fork: %d", e)
	}
	if e := f.Write("x"); e != api.ErrLong {
		t.Errorf("fork at its limit: %d", e)
	}
	if e := h.Write("x"); e != api.OK {
		t.Errorf("first hash: %d", e)
	}
}

// referenceOfLength answers what the library's SHA-256 says of a hash that
// hashOfLength makes: the same state, no byte in the block, n bytes counted.
func referenceOfLength(t *testing.T, n uint64) string {
	saved := []byte("sha\x03")
	for _, word := range New().state {
		saved = binary.BigEndian.AppendUint32(saved, word)
	}
	saved = append(saved, make([]byte, blockBytes)...)
	saved = binary.BigEndian.AppendUint64(saved, n)
	h := sha256.New()
	if err := h.(encoding.BinaryUnmarshaler).UnmarshalBinary(saved); err != nil {
		t.Fatal(err)
	}
	return string(h.Sum(nil))
}

// 1.2: the number of bits in all of its bytes that a hash can reach
func TestSumOfGreatLengths(t *testing.T) {
	for _, n := range []int64{1 << 29, 1<<32 + 1, 0x7654321098, 1<<40 - 1, 1 << 40} {
		h := hashOfLength(n)
		before := *h
		if s := h.Sum(); s != referenceOfLength(t, uint64(n)) {
			t.Errorf("length %d: %x", n, s)
		}
		if *h != before {
			t.Errorf("length %d: a sum changed the hash", n)
		}
	}
}

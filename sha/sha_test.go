package sha_test

import (
	"crypto/sha256"
	"encoding/hex"
	"math/rand"
	"strings"
	"testing"

	"capstan/api"
	"capstan/sha"
)

// pattern answers n bytes, those above 127 among them, without a short period.
func pattern(n int) string {
	b := make([]byte, n)
	for i := range b {
		b[i] = byte(i*i*7 + i*131 + 200)
	}
	return string(b)
}

// reference answers the digest by the library's own SHA-256.
func reference(b string) string {
	d := sha256.Sum256([]byte(b))
	return string(d[:])
}

func mustWrite(t *testing.T, h *sha.Hash, b string) {
	t.Helper()
	if e := h.Write(b); e != api.OK {
		t.Fatalf("Write of %d bytes: %d", len(b), e)
	}
}

// 1.1
func TestSumOfKnownTexts(t *testing.T) {
	for _, c := range []struct{ text, want string }{
		{"", "e3b0c44298fc1c149afbf4c8996fb92427ae41e4649b934ca495991b7852b855"},
		{"abc", "ba7816bf8f01cfea414140de5dae2223b00361a396177a9cb410ff61f20015ad"},
		{"abcdbcdecdefdefgefghfghighijhijkijkljklmklmnlmnomnopnopq", "248d6a61d20638b8e5c026930c3e6039a33ce45964ff2167f6ecedd419db06c1"},
		{"abcdefghbcdefghicdefghijdefghijkefghijklfghijklmghijklmnhijklmnoijklmnopjklmnopqklmnopqrlmnopqrsmnopqrstnopqrstu", "cf5b16a778af8380036ce59e7b0492370b249b11e8f07a51afac45037afee9d1"},
		{"\xbd", "68325720aabd7c82f30f554b313d0570c95accbb7dc4b5aae11204c08ffe732b"},
		{strings.Repeat("a", 1000000), "cdc76e5c9914fb9281a1c7e284d73e67f1809a48a497200e046d39ccc7112cd0"},
	} {
		if got := sha.Hex(sha.Sum(c.text)); got != c.want {
			t.Errorf("Sum of %.20q (%d bytes): %s, want %s", c.text, len(c.text), got, c.want)
		}
	}
}

// 1.1, at each length around the ends of blocks
func TestSumAtEachLength(t *testing.T) {
	for n := range 4*64 + 2 {
		b := pattern(n)
		if got := sha.Sum(b); got != reference(b) {
			t.Errorf("length %d: %x, want %x", n, got, reference(b))
		}
	}
}

// 1.1
func TestSumOfSingleBytes(t *testing.T) {
	for n := range 256 {
		for _, length := range []int{1, 55, 56, 63, 64, 65} {
			b := strings.Repeat(string([]byte{byte(n)}), length)
			if got := sha.Sum(b); got != reference(b) {
				t.Errorf("%d times the byte %d: %x, want %x", length, n, got, reference(b))
			}
		}
	}
}

// 1.1: the number of bits needs more than its lowest three bytes here
func TestSumOfManyBytes(t *testing.T) {
	b := strings.Repeat(pattern(1000), 2100) + "end"
	if got := sha.Sum(b); got != reference(b) {
		t.Errorf("%x, want %x", got, reference(b))
	}
}

// 1.1
func TestHex(t *testing.T) {
	for _, c := range []struct{ bytes, want string }{
		{"", ""},
		{"\x00", "00"},
		{"\x0f\xf0", "0ff0"},
		{"\x01\x23\x45\x67\x89\xab\xcd\xef", "0123456789abcdef"},
		{"abc", "616263"},
		{"\u00e9", "c3a9"},
		{"\x7f\x80\xff", "7f80ff"},
	} {
		if got := sha.Hex(c.bytes); got != c.want {
			t.Errorf("Hex(%q): %q, want %q", c.bytes, got, c.want)
		}
	}
	for n := range 256 {
		b := string([]byte{byte(n)})
		if got := sha.Hex(b); got != hex.EncodeToString([]byte(b)) {
			t.Errorf("Hex of the byte %d: %q", n, got)
		}
	}
}

// 1.2
func TestNewHasNoBytes(t *testing.T) {
	h := sha.New()
	if h.Len() != 0 || h.Sum() != reference("") {
		t.Errorf("Len %d, Sum %x", h.Len(), h.Sum())
	}
	other := sha.New()
	mustWrite(t, other, "abc")
	if h.Len() != 0 || h.Sum() != reference("") {
		t.Error("a write to one hash shows in another one")
	}
}

// 1.2
func TestLenCountsWhatWasWritten(t *testing.T) {
	h := sha.New()
	want := 0
	for _, n := range []int{0, 1, 54, 0, 1, 7, 1, 1, 0, 62, 1, 64, 128, 200} {
		mustWrite(t, h, pattern(n))
		want += n
		if h.Len() != want {
			t.Errorf("behind %d bytes more: Len %d, want %d", n, h.Len(), want)
		}
	}
}

// 1.2: a sum between two pieces
func TestSumChangesNothing(t *testing.T) {
	for n := range 131 {
		h := sha.New()
		first, second := pattern(n), "and "+pattern(70)
		mustWrite(t, h, first)
		for range 3 {
			if got := h.Sum(); got != reference(first) {
				t.Fatalf("length %d: %x, want %x", n, got, reference(first))
			}
		}
		if h.Len() != n {
			t.Errorf("length %d: Len %d behind a sum", n, h.Len())
		}
		mustWrite(t, h, second)
		if got := h.Sum(); got != reference(first+second) {
			t.Errorf("length %d, and a piece behind the sum: %x, want %x", n, got, reference(first+second))
		}
	}
}

// 1.2
func TestForkGoesItsOwnWay(t *testing.T) {
	for n := range 131 {
		first := pattern(n)
		h := sha.New()
		mustWrite(t, h, first)
		f := h.Fork()
		if f.Len() != n || f.Sum() != reference(first) {
			t.Fatalf("length %d: the fork has not what the first hash has", n)
		}
		mustWrite(t, f, "fork"+pattern(66))
		if h.Len() != n || h.Sum() != reference(first) {
			t.Fatalf("length %d: a write to the fork shows in the first hash", n)
		}
		mustWrite(t, h, "first")
		if f.Len() != n+70 || f.Sum() != reference(first+"fork"+pattern(66)) {
			t.Errorf("length %d: the fork has %d bytes, digest %x", n, f.Len(), f.Sum())
		}
		if h.Len() != n+5 || h.Sum() != reference(first+"first") {
			t.Errorf("length %d: the first hash has %d bytes, digest %x", n, h.Len(), h.Sum())
		}
	}
}

// 1.2: a fork of a fork, and of a hash without a byte
func TestForksOfForks(t *testing.T) {
	h := sha.New()
	f := h.Fork()
	mustWrite(t, f, "a")
	g := f.Fork()
	mustWrite(t, g, "b")
	mustWrite(t, f, "c")
	for i, c := range []struct {
		hash *sha.Hash
		want string
	}{{h, ""}, {f, "ac"}, {g, "ab"}} {
		if c.hash.Len() != len(c.want) || c.hash.Sum() != reference(c.want) {
			t.Errorf("hash %d is not that of %q", i, c.want)
		}
	}
}

// 1.3: each way to cut a text of more than two blocks into two pieces
func TestTwoPieces(t *testing.T) {
	b := pattern(150)
	for cut := range len(b) + 1 {
		h := sha.New()
		mustWrite(t, h, b[:cut])
		mustWrite(t, h, b[cut:])
		if h.Len() != len(b) || h.Sum() != sha.Sum(b) || h.Sum() != reference(b) {
			t.Errorf("cut at %d: Len %d, Sum %x", cut, h.Len(), h.Sum())
		}
	}
}

// 1.3: pieces of one length each
func TestEvenPieces(t *testing.T) {
	b := pattern(1000)
	for size := 1; size <= 200; size++ {
		h := sha.New()
		for at := 0; at < len(b); at += size {
			mustWrite(t, h, b[at:min(at+size, len(b))])
			mustWrite(t, h, "")
		}
		if h.Len() != len(b) || h.Sum() != reference(b) {
			t.Errorf("pieces of %d: Len %d, Sum %x", size, h.Len(), h.Sum())
		}
	}
}

// 1.3: pieces of any lengths, with sums and forks between them
func TestMixedPieces(t *testing.T) {
	draw := rand.New(rand.NewSource(1))
	for run := range 200 {
		h := sha.New()
		var all strings.Builder
		for range draw.Intn(12) {
			piece := pattern(300)[:draw.Intn(150)*draw.Intn(3)]
			mustWrite(t, h, piece)
			all.WriteString(piece)
			switch draw.Intn(4) {
			case 0:
				if h.Sum() != reference(all.String()) {
					t.Fatalf("run %d: another digest behind %d bytes", run, all.Len())
				}
			case 1:
				h = h.Fork()
			}
		}
		if h.Len() != all.Len() || h.Sum() != reference(all.String()) {
			t.Errorf("run %d: Len %d of %d, Sum %x", run, h.Len(), all.Len(), h.Sum())
		}
	}
}

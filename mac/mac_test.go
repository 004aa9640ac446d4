package mac_test

import (
	"crypto/hmac"
	"crypto/sha256"
	"math/rand"
	"strings"
	"testing"
	"unsafe"

	"capstan/api"
	"capstan/mac"
	"capstan/sha"
)

// edgeLengths are those around the ends of a block, of a digest, and of a digest behind a block.
var edgeLengths = []int{0, 1, 2, 31, 32, 33, 55, 56, 57, 62, 63, 64, 65, 66, 96, 127, 128, 129, 200, 1000}

// pattern answers n bytes, those above 127 and 0 among them, without a short period.
func pattern(n, seed int) string {
	b := make([]byte, n)
	for i := range b {
		b[i] = byte(i*i*7 + i*131 + 200 + seed*59)
	}
	return string(b)
}

// reference answers the tag by the library's own HMAC.
func reference(key, message string) string {
	h := hmac.New(sha256.New, []byte(key))
	h.Write([]byte(message))
	return string(h.Sum(nil))
}

// flip answers b with one bit turned about.
func flip(b string, bit int) string {
	c := []byte(b)
	c[bit/8] ^= 1 << (bit % 8)
	return string(c)
}

// 2.1: the tags that RFC 4231 gives, and the chapter's example
func TestTagOfKnownTexts(t *testing.T) {
	ramp := make([]byte, 25)
	for i := range ramp {
		ramp[i] = byte(i + 1)
	}
	for _, c := range []struct{ key, message, want string }{
		{"", "", "b613679a0814d9ec772f95d778c35fc5ff1697c493715653c6c712144292c5ad"},
		{strings.Repeat("\x0b", 20), "Hi There", "b0344c61d8db38535ca8afceaf0bf12b881dc200c9833da726e9376c2e32cff7"},
		{"Jefe", "what do ya want for nothing?", "5bdcc146bf60754e6a042426089575c75a003f089d2739839dec58b964ec3843"},
		{strings.Repeat("\xaa", 20), strings.Repeat("\xdd", 50), "773ea91e36800e46854db8ebd09181a72959098b3ef8c122d9635514ced565fe"},
		{string(ramp), strings.Repeat("\xcd", 50), "82558a389a443c0ea4cc819899f2083a85f0faa3e578f8077a2e3ff46729665b"},
		{strings.Repeat("\xaa", 131), "Test Using Larger Than Block-Size Key - Hash Key First", "60e431591ee0b67f0d8a26aacbf5b77f8e0bc6213728c5140546040f0ee37f54"},
		{strings.Repeat("\xaa", 131), "This is a test using a larger than block-size key and a larger than block-size data. The key needs to be hashed before being used by the HMAC algorithm.", "9b09ffa71b942fcb27635fbcd5b0e944bfdc63644f0713938a7f51535c3a35e2"},
	} {
		if got := sha.Hex(mac.Tag(c.key, c.message)); got != c.want {
			t.Errorf("Tag(%.20q, %.20q): %s, want %s", c.key, c.message, got, c.want)
		}
	}
}

// 2.1, at keys and messages of each edge's length
func TestTagAtEdges(t *testing.T) {
	for _, k := range edgeLengths {
		for _, m := range edgeLengths {
			key, message := pattern(k, 1), pattern(m, 2)
			got := mac.Tag(key, message)
			if got != reference(key, message) {
				t.Errorf("a key of %d bytes, a message of %d: %x, want %x", k, m, got, reference(key, message))
			}
			if len(got) != 32 {
				t.Errorf("a key of %d bytes, a message of %d: a tag of %d bytes", k, m, len(got))
			}
		}
	}
}

// 2.1
func TestTagOfEachByte(t *testing.T) {
	for n := range 256 {
		one := string([]byte{byte(n)})
		for _, c := range [][2]string{{one, "message"}, {"key", one}, {one, one}, {strings.Repeat(one, 65), one}} {
			if got := mac.Tag(c[0], c[1]); got != reference(c[0], c[1]) {
				t.Errorf("Tag(%q, %q): %x, want %x", c[0], c[1], got, reference(c[0], c[1]))
			}
		}
	}
}

// 2.1
func TestTagOfManyBytes(t *testing.T) {
	long := strings.Repeat(pattern(1000, 3), 300) + "end"
	for _, c := range [][2]string{{long, "m"}, {"k", long}, {long, long}} {
		if got := mac.Tag(c[0], c[1]); got != reference(c[0], c[1]) {
			t.Errorf("a key of %d bytes, a message of %d: %x", len(c[0]), len(c[1]), got)
		}
	}
}

// 2.1
func TestTagAtRandom(t *testing.T) {
	r := rand.New(rand.NewSource(2))
	for range 500 {
		key, message := make([]byte, r.Intn(140)), make([]byte, r.Intn(300))
		r.Read(key)
		r.Read(message)
		if got := mac.Tag(string(key), string(message)); got != reference(string(key), string(message)) {
			t.Errorf("Tag(%q, %q): %x", key, message, got)
		}
	}
}

// 2.1, R7
func TestTagTwice(t *testing.T) {
	first := mac.Tag("k", "m")
	mac.Tag("another", "one")
	if mac.Tag("k", "m") != first {
		t.Error("the same call tells another tag")
	}
}

// 2.1
func TestTagsOfOthersDiffer(t *testing.T) {
	tag := mac.Tag("key", "message")
	for _, c := range [][2]string{
		{"message", "key"}, {"keym", "essage"}, {"ke", "ymessage"}, {"Key", "message"}, {"key", "messagf"},
		{"key", "message\x00"}, {"\x00key", "message"}, {"key", ""}, {"", "message"},
	} {
		if mac.Tag(c[0], c[1]) == tag {
			t.Errorf("Tag(%q, %q) is that of another key and message", c[0], c[1])
		}
	}
}

// 2.1
func TestEqual(t *testing.T) {
	texts := []string{"", "\x00", "\x00\x00", "a", "b", "A", "ab", "ba", "aa", "a\x00", "\x00a", "\x7f", "\xff", "\x80", "abc", "abd", "bbc"}
	for _, a := range texts {
		for _, b := range texts {
			if got := mac.Equal(a, b); got != (a == b) {
				t.Errorf("Equal(%q, %q): %v", a, b, got)
			}
		}
	}
}

// 2.1: one bit anywhere, a byte more or less at either end
func TestEqualOfNearlyTheSame(t *testing.T) {
	for _, n := range []int{1, 31, 32, 33, 300} {
		a := pattern(n, 4)
		if !mac.Equal(a, strings.Clone(a)) {
			t.Errorf("%d bytes: not equal to themselves", n)
		}
		for bit := range 8 * n {
			if mac.Equal(a, flip(a, bit)) || mac.Equal(flip(a, bit), a) {
				t.Errorf("%d bytes: equal to those with bit %d turned", n, bit)
			}
		}
		for _, b := range []string{a[1:], a[:n-1], a + "\x00", "\x00" + a, a + a, ""} {
			if mac.Equal(a, b) || mac.Equal(b, a) {
				t.Errorf("%d bytes: equal to %d other ones", n, len(b))
			}
		}
	}
}

// 2.1: lengths whose difference is a multiple of 256, and differences that cancel out
func TestEqualOfTheSameBeginnings(t *testing.T) {
	for _, c := range [][2]string{
		{"", strings.Repeat("\x00", 256)}, {"a", "a" + strings.Repeat("\x00", 256)}, {"a", "a" + strings.Repeat("a", 65536)},
		{"ab", "ba"}, {"aa", "bb"}, {"\x01\xff", "\x00\x00"}, {"\x01\x01", "\x00\x02"}, {"\x80\x80", "\x00\x00"},
	} {
		if mac.Equal(c[0], c[1]) || mac.Equal(c[1], c[0]) {
			t.Errorf("%.10q (%d bytes) and %.10q (%d bytes) are equal", c[0], len(c[0]), c[1], len(c[1]))
		}
	}
}

// 2.1
func TestCheckOfRightTags(t *testing.T) {
	for _, k := range edgeLengths {
		for _, m := range edgeLengths {
			key, message := pattern(k, 5), pattern(m, 6)
			if e := mac.Check(key, message, reference(key, message)); e != api.OK {
				t.Errorf("a key of %d bytes, a message of %d: %d", k, m, e)
			}
		}
	}
}

// 2.1
func TestCheckOfWrongTags(t *testing.T) {
	for _, c := range [][2]string{{"", ""}, {"k", "message"}, {pattern(65, 7), pattern(100, 7)}} {
		tag := reference(c[0], c[1])
		wrong := []string{"", tag[:1], tag[:31], tag[1:], tag + "\x00", "\x00" + tag, tag + tag, strings.Repeat("\x00", 32), sha.Hex(tag), sha.Sum(c[1]), reference(c[0], c[1]+"x"), reference(c[0]+"x", c[1])}
		for bit := range 8 * len(tag) {
			wrong = append(wrong, flip(tag, bit))
		}
		for _, w := range wrong {
			if e := mac.Check(c[0], c[1], w); e != api.ErrTag {
				t.Errorf("Check(%.10q, %.10q, %x): %d", c[0], c[1], w, e)
			}
		}
	}
}

// 2.1
func TestCheckOfAnotherKeyOrMessage(t *testing.T) {
	tag := mac.Tag("key", "message")
	for _, c := range [][2]string{
		{"kex", "message"}, {"", "message"}, {"key ", "message"}, {"key", "messag"}, {"key", "message "}, {"key", ""}, {"message", "key"},
	} {
		if e := mac.Check(c[0], c[1], tag); e != api.ErrTag {
			t.Errorf("Check(%q, %q, another's tag): %d", c[0], c[1], e)
		}
	}
}

// 2.1
func TestMake(t *testing.T) {
	for _, k := range edgeLengths {
		for _, use := range []string{"", "use", "another use", "\xff\x00\x80", pattern(64, 8), pattern(500, 8)} {
			key := pattern(k, 9)
			if got := mac.Make(key, use); got != reference(key, use) {
				t.Errorf("a key of %d bytes made for %.10q: %x, want %x", k, use, got, reference(key, use))
			}
		}
	}
	if made := mac.Make(mac.Make("k", "a"), "b"); made != reference(reference("k", "a"), "b") {
		t.Errorf("a key made of a made key: %x", made)
	}
}

// 2.2
func TestSeal(t *testing.T) {
	for _, k := range edgeLengths {
		for _, m := range edgeLengths {
			key, message := pattern(k, 10), pattern(m, 11)
			if got := mac.Seal(key, message); got != message+reference(key, message) {
				t.Errorf("a key of %d bytes, a message of %d: %x", k, m, got)
			}
		}
	}
}

// 2.2, 2.3
func TestOpenOfSealed(t *testing.T) {
	for _, k := range edgeLengths {
		for _, m := range edgeLengths {
			key, message := pattern(k, 12), pattern(m, 13)
			got, e := mac.Open(key, message+reference(key, message))
			if got != message || e != api.OK {
				t.Errorf("a key of %d bytes, a message of %d: %d bytes, %d", k, m, len(got), e)
			}
			got, e = mac.Open(key, mac.Seal(key, message))
			if got != message || e != api.OK {
				t.Errorf("sealed, a key of %d bytes, a message of %d: %d bytes, %d", k, m, len(got), e)
			}
		}
	}
}

func mustRefuse(t *testing.T, key, sealed, what string) {
	t.Helper()
	if m, e := mac.Open(key, sealed); m != "" || e != api.ErrTag {
		t.Errorf("%s: %q, %d", what, m, e)
	}
}

// 2.2: too short to hold a tag; of 32 bytes the tag of the empty message alone
func TestOpenOfShortTexts(t *testing.T) {
	for _, key := range []string{"", "k", pattern(65, 14)} {
		for n := range 32 {
			mustRefuse(t, key, pattern(n, 15), "fewer than 32 bytes")
			mustRefuse(t, key, mac.Seal(key, "")[:n], "a tag that is cut")
			mustRefuse(t, key, mac.Seal(key, "")[32-n:], "a tag whose beginning is cut")
		}
		mustRefuse(t, key, pattern(32, 15), "32 bytes")
		mustRefuse(t, key, strings.Repeat("\x00", 32), "32 bytes 0")
		mustRefuse(t, key, mac.Tag(key, "x"), "the tag of another message")
		if m, e := mac.Open(key, reference(key, "")); m != "" || e != api.OK {
			t.Errorf("the sealed empty message: %q, %d", m, e)
		}
	}
}

// 2.2: cut, lengthened, changed in each byte, turned about
func TestOpenOfChangedTexts(t *testing.T) {
	for _, n := range []int{0, 1, 7, 32, 64, 100} {
		key := pattern(20, n)
		sealed := mac.Seal(key, pattern(n, 16))
		for bit := range 8 * len(sealed) {
			mustRefuse(t, key, flip(sealed, bit), "a bit turned")
		}
		for i := range sealed {
			mustRefuse(t, key, sealed[:i], "its end cut off")
			mustRefuse(t, key, sealed[i+1:], "its beginning cut off")
			mustRefuse(t, key, sealed[:i]+sealed[i+1:], "a byte taken out")
		}
		mustRefuse(t, key, sealed+"\x00", "a byte behind")
		mustRefuse(t, key, "\x00"+sealed, "a byte ahead")
		mustRefuse(t, key, sealed+sealed, "twice")
		if n > 0 {
			// with n 0 these are the sealed text itself
			mustRefuse(t, key, sealed[n:]+sealed[:n], "the tag ahead")
		}
	}
}

// 2.2
func TestOpenUnderAnotherKey(t *testing.T) {
	for _, key := range []string{"k", pattern(32, 17), pattern(64, 17), pattern(65, 17)} {
		sealed := mac.Seal(key, "message")
		for bit := range 8 * len(key) {
			mustRefuse(t, flip(key, bit), sealed, "a bit of the key turned")
		}
		mustRefuse(t, "", sealed, "the empty key")
		mustRefuse(t, key+"x", sealed, "a byte behind the key")
		mustRefuse(t, "\x00"+key, sealed, "a byte 0 ahead of the key")
		mustRefuse(t, mac.Make(key, "use"), sealed, "a key made of it")
	}
}

// 2.2, 2.3: sealed twice over, under one key and under two
func TestSealedTwiceOver(t *testing.T) {
	for _, keys := range [][2]string{{"k", "k"}, {"inner", "outer"}, {"", pattern(100, 18)}} {
		for _, message := range []string{"", "message", pattern(70, 19)} {
			once := mac.Seal(keys[0], message)
			twice := mac.Seal(keys[1], once)
			if len(twice) != len(message)+64 {
				t.Errorf("sealed twice over: %d bytes of %d", len(twice), len(message))
			}
			got, e := mac.Open(keys[1], twice)
			if got != once || e != api.OK {
				t.Errorf("opened once: %q, %d", got, e)
			}
			got, e = mac.Open(keys[0], got)
			if got != message || e != api.OK {
				t.Errorf("opened twice: %q, %d", got, e)
			}
			if keys[0] != keys[1] {
				mustRefuse(t, keys[0], twice, "the inner key first")
			}
		}
	}
}

// 2.3
func TestLongKeyTagsLikeItsDigest(t *testing.T) {
	for _, n := range []int{65, 66, 96, 127, 128, 129, 1000} {
		key := pattern(n, 20)
		if mac.Tag(key, "message") != mac.Tag(sha.Sum(key), "message") {
			t.Errorf("a key of %d bytes tags unlike its digest", n)
		}
		if m, e := mac.Open(sha.Sum(key), mac.Seal(key, "message")); m != "message" || e != api.OK {
			t.Errorf("a key of %d bytes: what it seals is not opened by its digest: %q, %d", n, m, e)
		}
	}
	for n := range 65 {
		key := pattern(n, 20)
		if mac.Tag(key, "message") == mac.Tag(sha.Sum(key), "message") {
			t.Errorf("a key of %d bytes tags like its digest", n)
		}
	}
}

// 2.3
func TestKeyWithNoughtsBehindIt(t *testing.T) {
	for n := range 65 {
		key := pattern(n, 21)
		want := mac.Tag(key, "message")
		for more := range 65 - n {
			if mac.Tag(key+strings.Repeat("\x00", more), "message") != want {
				t.Errorf("a key of %d bytes tags unlike itself with %d bytes 0 behind it", n, more)
			}
		}
		if mac.Tag(key+strings.Repeat("\x00", 65-n), "message") == want {
			t.Errorf("a key of %d bytes tags like itself with bytes 0 behind it up to 65", n)
		}
	}
}

// R4
func TestOpenAnswersNewMemory(t *testing.T) {
	sealed := mac.Seal("k", "message")
	got, _ := mac.Open("k", sealed)
	if unsafe.StringData(got) == unsafe.StringData(sealed) {
		t.Error("the message lies in the memory of what was sealed")
	}
}

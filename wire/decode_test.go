package wire_test

import (
	"math"
	"math/rand"
	"slices"
	"strings"
	"testing"
	"unsafe"

	"capstan/api"
	"capstan/wire"
)

func mustDecode(t *testing.T, b string, want []api.Item, what string) {
	t.Helper()
	if l, f := wire.Decode(b); !slices.Equal(l, want) || f != (api.Fault{}) {
		t.Errorf("%s: %.20q (%d bytes): %d items, %v, want %d items", what, b, len(b), len(l), f, len(want))
	}
}

func mustNotDecode(t *testing.T, b string, at int, code api.Errno, what string) {
	t.Helper()
	want := api.Fault{At: at, Code: code}
	if l, f := wire.Decode(b); len(l) != 0 || f != want {
		t.Errorf("%s: %.20q (%d bytes): %d items, %v, want %v", what, b, len(b), len(l), f, want)
	}
}

// places answers where each item of l stands, and where its bytes end.
func places(l []api.Item) []int {
	at := make([]int, len(l)+1)
	for i := range at {
		at[i] = len(reference(l[:i]))
	}
	return at
}

// 3.2
func TestDecodeExample(t *testing.T) {
	b := string([]byte{0, 2, 35, 0, 0, 0, 0, 0, 0, 0, 1, 36, 0, 2, 97, 98})
	mustDecode(t, b, []api.Item{number(1), text("ab")}, "the example")
}

// 3.2, 3.3
func TestDecodeOfGoodLists(t *testing.T) {
	for _, l := range goodLists() {
		mustDecode(t, reference(l), l, "a list's bytes")
		if b, e := wire.Encode(l); e == api.OK {
			mustDecode(t, b, l, "what is encoded")
		}
	}
}

// 3.2
func TestDecodeOfNumbers(t *testing.T) {
	for _, c := range []struct {
		b    string
		want int64
	}{
		{"\x00\x00\x00\x00\x00\x00\x00\x00", 0},
		{"\x00\x00\x00\x00\x00\x00\x00\x80", 128},
		{"\x00\x00\x00\x00\x00\x00\x01\x00", 256},
		{"\x00\x00\x00\x00\x80\x00\x00\x00", 1 << 31},
		{"\x01\x02\x03\x04\x05\x06\x07\x08", 0x0102030405060708},
		{"\xff\xff\xff\xff\xff\xff\xff\xff", -1},
		{"\xff\xff\xff\xff\xff\xff\xff\x00", -256},
		{"\x7f\xff\xff\xff\xff\xff\xff\xff", math.MaxInt64},
		{"\x80\x00\x00\x00\x00\x00\x00\x00", math.MinInt64},
	} {
		mustDecode(t, "\x00\x01#"+c.b, []api.Item{number(c.want)}, "a number")
	}
	for shift := range 64 {
		l := []api.Item{number(1 << shift), number(-1 << shift)}
		mustDecode(t, reference(l), l, "a power of two")
	}
}

// 3.2: just api.MaxBytes may be; a byte more may not, whatever they are
func TestDecodeOfTooManyBytes(t *testing.T) {
	for _, l := range fullLists() {
		mustDecode(t, reference(l), l, "a full list")
		mustNotDecode(t, reference(l)+"\x00", 0, api.ErrLong, "a byte behind a full list")
	}
	twoTexts := reference([]api.Item{text(pattern(65000, 1)), text(pattern(529, 2))})
	if len(twoTexts) != api.MaxBytes+1 {
		t.Fatalf("%d bytes", len(twoTexts))
	}
	mustNotDecode(t, twoTexts, 0, api.ErrLong, "a right list of too many bytes")
	for _, first := range []string{"\x00\x00", "\x00\x01", "\x03\xe9", "\x00\x01x", "\x00\x01#", "\x00\x01$\xff\xff"} {
		for _, n := range []int{api.MaxBytes + 1, api.MaxBytes + 2, 2 * api.MaxBytes, 2*api.MaxBytes + 16} {
			mustNotDecode(t, first+strings.Repeat("x", n-len(first)), 0, api.ErrLong, "too many bytes")
		}
	}
	noughts := strings.Repeat("\x00", api.MaxBytes)
	mustNotDecode(t, noughts, 2, api.ErrMore, "api.MaxBytes bytes 0")
	mustNotDecode(t, noughts+"\x00", 0, api.ErrLong, "a byte 0 more")
}

// 3.2
func TestDecodeOfFewerThanTwoBytes(t *testing.T) {
	mustNotDecode(t, "", 0, api.ErrEnd, "no byte")
	for n := range 256 {
		mustNotDecode(t, string([]byte{byte(n)}), 0, api.ErrEnd, "one byte")
	}
}

// 3.2, R3
func TestDecodeOfTheEmptyList(t *testing.T) {
	mustDecode(t, "\x00\x00", nil, "the empty list")
	for n := range 256 {
		mustNotDecode(t, "\x00\x00"+string([]byte{byte(n)}), 2, api.ErrMore, "a byte behind the empty list")
	}
}

// 3.2: the number of items alone, without one
func TestDecodeOfEachCount(t *testing.T) {
	for n := 1; n < 65536; n++ {
		head := string([]byte{byte(n >> 8), byte(n)})
		if n <= 1000 {
			mustNotDecode(t, head, 2, api.ErrEnd, "no item")
		} else {
			mustNotDecode(t, head, 0, api.ErrLong, "more than 1000 items told")
		}
	}
}

// 3.2: too many items are refused ahead of what is wrong with them
func TestDecodeOfTooManyItems(t *testing.T) {
	mustNotDecode(t, reference(numbers(1001)), 0, api.ErrLong, "1001 items")
	mustNotDecode(t, "\x03\xe9x", 0, api.ErrLong, "1001 told, a wrong one there")
	mustNotDecode(t, "\x03\xe9"+reference(numbers(1000))[2:], 0, api.ErrLong, "1001 told, 1000 there")
	mustNotDecode(t, "\xff\xff#", 0, api.ErrLong, "65535 told, a cut one there")
	mustNotDecode(t, "\x03\xe8"+reference(numbers(1001))[2:], 2+9*1000, api.ErrMore, "1000 told, 1001 there")
	mustNotDecode(t, "\x03\xe8"+reference(numbers(999))[2:], 2+9*999, api.ErrEnd, "1000 told, 999 there")
}

// mixed are lists of which each place is cut and changed.
func mixed() [][]api.Item {
	return [][]api.Item{
		{number(1), text("ab"), number(-2), text("")},
		{text(""), text(""), number(math.MinInt64)},
		{text("#$#$#$#$#$"), text("\x00\x01"), text("x"), number(0)},
		{number(0x2323232323232323), number(0x2424242424242424), text(strings.Repeat("$", 300))},
		{text(pattern(256, 3)), number(-1)},
	}
}

// 3.2, 3.3: cut within each item, the fault is at that item's place
func TestDecodeOfEachBeginning(t *testing.T) {
	for _, l := range mixed() {
		b, at := reference(l), places(l)
		for n := range len(b) {
			place := 0
			for _, p := range at {
				if n >= 2 && p <= n {
					place = p
				}
			}
			mustNotDecode(t, b[:n], place, api.ErrEnd, "a beginning")
		}
	}
	// The long ones are cut here and there alone: each of their beginnings would take too long.
	long := reference([]api.Item{number(9), text(pattern(65522, 4))})
	for _, n := range []int{1, 2, 8, 255, 256, 300, 40000} {
		mustNotDecode(t, long[:len(long)-n], 11, api.ErrEnd, "a long text, cut")
	}
	long = reference([]api.Item{text(pattern(65522, 5)), number(9)})
	for n := 1; n <= 9; n++ {
		mustNotDecode(t, long[:len(long)-n], 2+3+65522, api.ErrEnd, "a number behind a long text, cut")
	}
}

// 3.2, 3.3
func TestDecodeOfBytesBehind(t *testing.T) {
	for _, l := range mixed() {
		b := reference(l)
		for n := range 256 {
			mustNotDecode(t, b+string([]byte{byte(n)}), len(b), api.ErrMore, "a byte behind")
		}
		for _, more := range []string{"#", "$", "\x00\x00", "$\x00\x00", "#\x00\x00\x00\x00\x00\x00\x00\x01", b, strings.Repeat("\x00", 1000)} {
			mustNotDecode(t, b+more, len(b), api.ErrMore, "more behind")
		}
	}
}

// 3.2: fewer or more items told than are there
func TestDecodeOfAnotherCount(t *testing.T) {
	for _, l := range mixed() {
		b, at := reference(l), places(l)
		for n := range len(l) {
			mustNotDecode(t, string([]byte{0, byte(n)})+b[2:], at[n], api.ErrMore, "fewer told")
		}
		for n := len(l) + 1; n <= 1000; n++ {
			mustNotDecode(t, string([]byte{byte(n >> 8), byte(n)})+b[2:], len(b), api.ErrEnd, "more told")
		}
	}
}

// 3.2: each byte that is no mark, in the place of each mark
func TestDecodeOfWrongMarks(t *testing.T) {
	for _, l := range mixed() {
		for _, p := range places(l)[:len(l)] {
			for n := range 256 {
				if n == '#' || n == '$' {
					continue
				}
				b := []byte(reference(l))
				b[p] = byte(n)
				mustNotDecode(t, string(b), p, api.ErrForm, "a wrong mark")
				mustNotDecode(t, string(b[:p+1]), p, api.ErrForm, "a wrong mark, and nothing behind")
				mustNotDecode(t, string(b)+"more", p, api.ErrForm, "a wrong mark, and more behind")
			}
		}
	}
}

// 3.2: a number's and a text's bytes, each of them missing
func TestDecodeOfCutItems(t *testing.T) {
	for n := range 8 {
		mustNotDecode(t, "\x00\x01#"+strings.Repeat("\x01", n), 2, api.ErrEnd, "a cut number")
		mustNotDecode(t, "\x00\x02$\x00\x00#"+strings.Repeat("#", n), 5, api.ErrEnd, "a cut number behind a text")
	}
	for _, head := range []string{"$", "$\x00", "$\x01", "$\xff", "$\x00\x01", "$\x01\x00", "$\xff\xff"} {
		mustNotDecode(t, "\x00\x01"+head, 2, api.ErrEnd, "a cut text")
		mustNotDecode(t, "\x00\x02#12345678"+head, 11, api.ErrEnd, "a cut text behind a number")
	}
	for _, n := range []int{1, 2, 255, 256, 257, 65531, 65532, 65535} {
		head := "\x00\x01$" + string([]byte{byte(n >> 8), byte(n)})
		there := min(n-1, api.MaxBytes-len(head))
		mustNotDecode(t, head+strings.Repeat("x", there), 2, api.ErrEnd, "a text that lacks bytes")
	}
}

// 3.2: of several faults the one in front
func TestDecodeAnswersTheFirstFault(t *testing.T) {
	mustNotDecode(t, "\x00\x03$\x00\x00xy", 5, api.ErrForm, "a wrong mark, then an end")
	mustNotDecode(t, "\x00\x03$\x00\x00#xy", 5, api.ErrEnd, "an end within a number, a wrong mark in it")
	mustNotDecode(t, "\x00\x03$\x00\x00$\x00\x05ab", 5, api.ErrEnd, "an end within a text")
	mustNotDecode(t, "\x00\x02x$\x00\x00y", 2, api.ErrForm, "two wrong marks")
}

// 3.3: all short bytes of those that matter: they are one list, whose bytes they are, or none
func TestShortBytesAreOneListOrNone(t *testing.T) {
	const letters = "\x00\x01\x02#$\xff"
	lists := 0
	var grow func(b string)
	grow = func(b string) {
		if checkAgainstReference(t, b) {
			lists++
		}
		if len(b) < 8 && (len(b) != 1 || b == "\x00") {
			for i := range letters {
				grow(b + letters[i:i+1])
			}
		}
	}
	grow("")
	// One of no item; texts of 0, 1, 2, 3 bytes (but 3 is no letter); two texts of 0 bytes: of 8 bytes in all.
	if want := 1 + 1 + 6 + 36 + 1; lists != want {
		t.Errorf("%d lists, want %d", lists, want)
	}
}

// checkAgainstReference answers whether b is a list, and tells if wire thinks otherwise.
func checkAgainstReference(t *testing.T, b string) bool {
	t.Helper()
	want, fault := slowDecode(b)
	l, f := wire.Decode(b)
	if f != fault || !slices.Equal(l, want) {
		t.Errorf("%.40q: %#v, %v, want %#v, %v", b, l, f, want, fault)
	}
	if f.Code != api.OK {
		return false
	}
	if back, e := wire.Encode(l); back != b || e != api.OK {
		t.Errorf("%.40q: its list has other bytes: %.40q, %d", b, back, e)
	}
	return true
}

// slowDecode takes bytes apart as the chapter says it, item by item, each as the longest that its mark asks for.
func slowDecode(b string) ([]api.Item, api.Fault) {
	switch {
	case len(b) > 65536:
		return nil, api.Fault{Code: api.ErrLong}
	case len(b) < 2:
		return nil, api.Fault{Code: api.ErrEnd}
	case int(b[0])*256+int(b[1]) > 1000:
		return nil, api.Fault{Code: api.ErrLong}
	}
	var l []api.Item
	at := 2
	for len(l) < int(b[0])*256+int(b[1]) {
		rest := b[at:]
		switch {
		case rest == "":
			return nil, api.Fault{At: at, Code: api.ErrEnd}
		case rest[0] != 35 && rest[0] != 36:
			return nil, api.Fault{At: at, Code: api.ErrForm}
		case rest[0] == 35 && len(rest) < 9,
			rest[0] == 36 && len(rest) < 3,
			rest[0] == 36 && len(rest) < 3+int(rest[1])*256+int(rest[2]):
			return nil, api.Fault{At: at, Code: api.ErrEnd}
		}
		if rest[0] == 35 {
			var n int64
			for _, c := range []byte(rest[1:9]) {
				n = n*256 + int64(c)
			}
			l = append(l, number(n))
			at += 9
		} else {
			n := int(rest[1])*256 + int(rest[2])
			l = append(l, text(rest[3:3+n]))
			at += 3 + n
		}
	}
	if at != len(b) {
		return nil, api.Fault{At: at, Code: api.ErrMore}
	}
	return l, api.Fault{}
}

// 3.3, P1: lists at random, and their bytes cut, lengthened and changed
func TestListsAtRandom(t *testing.T) {
	r := rand.New(rand.NewSource(3))
	for range 3000 {
		l := randomList(r)
		b, e := wire.Encode(l)
		if b != reference(l) || e != api.OK {
			t.Fatalf("%#v: %q, %d", l, b, e)
		}
		mustDecode(t, b, l, "what is encoded")
		for range 10 {
			changed := []byte(b)
			for range 1 + r.Intn(3) {
				changed[r.Intn(len(changed))] = "\x00\x01\x02\x03#$\xff"[r.Intn(7)]
			}
			checkAgainstReference(t, string(changed))
			checkAgainstReference(t, string(changed[:r.Intn(len(changed)+1)]))
			checkAgainstReference(t, string(changed)+"$\x00\x01#"[:r.Intn(5)])
		}
	}
}

// 3.3, P1
func TestBytesAtRandom(t *testing.T) {
	r := rand.New(rand.NewSource(33))
	for range 20000 {
		b := make([]byte, 2+r.Intn(60))
		r.Read(b)
		b[0], b[1] = 0, byte(r.Intn(5))
		for i := 2; i < len(b); i++ {
			if r.Intn(2) == 0 {
				b[i] = "\x00\x00\x01\x05#$"[r.Intn(6)]
			}
		}
		checkAgainstReference(t, string(b))
	}
}

// R4: neither the list nor a text of it lies in other memory that somebody has
func TestDecodeAnswersNewMemory(t *testing.T) {
	b := reference([]api.Item{text("abc"), number(1), text("abc"), text(pattern(300, 6))})
	l, f := wire.Decode(b)
	other, _ := wire.Decode(b)
	if f != (api.Fault{}) || len(l) != 4 || len(other) != 4 {
		t.Fatal(l, f)
	}
	var texts []string
	for _, item := range append(slices.Clone(l), other...) {
		if item.Text {
			texts = append(texts, item.S)
		}
	}
	begin := uintptr(unsafe.Pointer(unsafe.StringData(b)))
	for i, s := range texts {
		p := uintptr(unsafe.Pointer(unsafe.StringData(s)))
		if p >= begin && p < begin+uintptr(len(b)) {
			t.Errorf("text %d lies in the memory of the bytes", i)
		}
		for _, s2 := range texts[:i] {
			if unsafe.StringData(s) == unsafe.StringData(s2) {
				t.Errorf("text %d lies in the memory of another one", i)
			}
		}
	}
	l[0], l[1] = number(7), text("x")
	_ = append(l[:2], number(8), number(9))
	mustDecode(t, b, other, "a list, behind changes of another answer")
	if other[0] != text("abc") || other[1] != number(1) {
		t.Errorf("another answer changed: %#v", other)
	}
}

// R7: refusals between leave no trace
func TestDecodeTwice(t *testing.T) {
	l := []api.Item{number(5), text("abc")}
	b := reference(l)
	mustDecode(t, b, l, "first")
	mustNotDecode(t, b[:len(b)-1], 11, api.ErrEnd, "cut")
	mustNotDecode(t, b+"x", len(b), api.ErrMore, "lengthened")
	mustDecode(t, b, l, "again")
	mustNotDecode(t, b[:len(b)-1], 11, api.ErrEnd, "cut again")
}

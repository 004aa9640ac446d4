package wire_test

import (
	"encoding/binary"
	"math"
	"math/rand"
	"slices"
	"strings"
	"testing"

	"capstan/api"
	"capstan/wire"
)

func number(n int64) api.Item { return api.Item{N: n} }

func text(s string) api.Item { return api.Item{Text: true, S: s} }

// pattern answers n bytes, those above 127 and 0 among them, without a short period.
func pattern(n, seed int) string {
	b := make([]byte, n)
	for i := range b {
		b[i] = byte(i*i*7 + i*131 + 200 + seed*59)
	}
	return string(b)
}

// everyByte is each byte once, the marks of items among them.
func everyByte() string {
	b := make([]byte, 256)
	for i := range b {
		b[i] = byte(i)
	}
	return string(b)
}

// numbers answers n items, each another number.
func numbers(n int) []api.Item {
	l := make([]api.Item, n)
	for i := range l {
		l[i].N = int64(i) * -0x0123456789abcd
	}
	return l
}

// reference answers the bytes of l by the library's own encoding of numbers.
func reference(l []api.Item) string {
	b := binary.BigEndian.AppendUint16(nil, uint16(len(l)))
	for _, item := range l {
		if item.Text {
			b = binary.BigEndian.AppendUint16(append(b, '$'), uint16(len(item.S)))
			b = append(b, item.S...)
		} else {
			b = binary.BigEndian.AppendUint64(append(b, '#'), uint64(item.N))
		}
	}
	return string(b)
}

// randomList answers a list of up to 12 items whose texts have up to 300 bytes.
func randomList(r *rand.Rand) []api.Item {
	l := make([]api.Item, r.Intn(13))
	for i := range l {
		switch r.Intn(3) {
		case 0:
			l[i] = number(int64(r.Uint64()))
		case 1:
			l[i] = number(int64(r.Intn(5) - 2))
		default:
			b := make([]byte, r.Intn(1+[]int{0, 3, 300}[r.Intn(3)]))
			r.Read(b)
			l[i] = text(string(b))
		}
	}
	return l
}

// goodLists are lists that may be, of each edge.
func goodLists() [][]api.Item {
	ls := [][]api.Item{
		nil,
		{},
		{number(1), text("ab")},
		{text("ab"), number(1)},
		{number(0)}, {number(0), number(0)}, {text("")}, {text(""), text("")},
		{number(math.MinInt64), number(math.MinInt64 + 1), number(-1), number(0), number(1), number(math.MaxInt64 - 1), number(math.MaxInt64)},
		{text("#"), text("$"), text("#$#$"), text("\x00\x01#"), number('#'), number('$')},
		{text(everyByte())},
		{text("\xff\xfe\x80"), text("é世界"), text("\x00"), text("\n\r\t\"\\")},
		numbers(255), numbers(256), numbers(257), numbers(999), numbers(1000),
		make([]api.Item, 1000),
	}
	for _, n := range []int{1, 2, 254, 255, 256, 257, 511, 512, 513, 32767, 32768, 65280, 65530, 65531} {
		ls = append(ls, []api.Item{text(pattern(n, 1))})
	}
	return append(ls, fullLists()...)
}

// fullLists are lists whose bytes are just api.MaxBytes.
func fullLists() [][]api.Item {
	manyTexts := make([]api.Item, 1000)
	for i := range manyTexts {
		manyTexts[i] = text(pattern(62, i))
	}
	// 2 and 999 times 65 are 64937: 599 are left for the last one.
	manyTexts[999] = text(pattern(599-3, 2))
	return [][]api.Item{
		{text(pattern(65531, 3))},
		{text(""), text(pattern(65528, 4))},
		{text(pattern(65528, 5)), text("")},
		{text(pattern(65522, 6)), number(-1)},
		{number(-1), text(pattern(65522, 7))},
		{text(pattern(32764, 8)), text(pattern(32764, 9))},
		manyTexts,
		append(numbers(999), text(pattern(65536-2-9*999-3, 10))),
	}
}

// 3.1: the chapter's example
func TestEncodeExample(t *testing.T) {
	got, e := wire.Encode([]api.Item{number(1), text("ab")})
	want := string([]byte{0, 2, 35, 0, 0, 0, 0, 0, 0, 0, 1, 36, 0, 2, 97, 98})
	if got != want || e != api.OK {
		t.Errorf("% x, %d, want % x", got, e, want)
	}
}

// 3.1, R3
func TestEncodeOfNoItems(t *testing.T) {
	for _, l := range [][]api.Item{nil, {}, numbers(3)[:0]} {
		if got, e := wire.Encode(l); got != "\x00\x00" || e != api.OK {
			t.Errorf("% x, %d", got, e)
		}
	}
}

// 3.1
func TestEncodeOfNumbers(t *testing.T) {
	for _, c := range []struct {
		n    int64
		want string
	}{
		{0, "\x00\x00\x00\x00\x00\x00\x00\x00"},
		{1, "\x00\x00\x00\x00\x00\x00\x00\x01"},
		{127, "\x00\x00\x00\x00\x00\x00\x00\x7f"},
		{128, "\x00\x00\x00\x00\x00\x00\x00\x80"},
		{255, "\x00\x00\x00\x00\x00\x00\x00\xff"},
		{256, "\x00\x00\x00\x00\x00\x00\x01\x00"},
		{0x0102030405060708, "\x01\x02\x03\x04\x05\x06\x07\x08"},
		{1 << 31, "\x00\x00\x00\x00\x80\x00\x00\x00"},
		{1 << 32, "\x00\x00\x00\x01\x00\x00\x00\x00"},
		{-1, "\xff\xff\xff\xff\xff\xff\xff\xff"},
		{-2, "\xff\xff\xff\xff\xff\xff\xff\xfe"},
		{-128, "\xff\xff\xff\xff\xff\xff\xff\x80"},
		{-256, "\xff\xff\xff\xff\xff\xff\xff\x00"},
		{-1 << 32, "\xff\xff\xff\xff\x00\x00\x00\x00"},
		{math.MaxInt64, "\x7f\xff\xff\xff\xff\xff\xff\xff"},
		{math.MinInt64, "\x80\x00\x00\x00\x00\x00\x00\x00"},
		{math.MinInt64 + 1, "\x80\x00\x00\x00\x00\x00\x00\x01"},
	} {
		got, e := wire.Encode([]api.Item{number(c.n)})
		if got != "\x00\x01#"+c.want || e != api.OK {
			t.Errorf("%d: % x, %d", c.n, got, e)
		}
	}
}

// 3.1
func TestEncodeOfTexts(t *testing.T) {
	for _, c := range []struct {
		n    int
		head string
	}{
		{0, "\x00\x00"}, {1, "\x00\x01"}, {35, "\x00#"}, {255, "\x00\xff"}, {256, "\x01\x00"}, {257, "\x01\x01"}, {65280, "\xff\x00"}, {65531, "\xff\xfb"},
	} {
		s := pattern(c.n, 11)
		got, e := wire.Encode([]api.Item{text(s)})
		if got != "\x00\x01$"+c.head+s || e != api.OK {
			t.Errorf("a text of %d bytes: %.10q (%d bytes), %d", c.n, got, len(got), e)
		}
	}
}

// 3.1
func TestEncodeOfGoodLists(t *testing.T) {
	for i, l := range goodLists() {
		if got, e := wire.Encode(l); got != reference(l) || e != api.OK {
			t.Errorf("list %d, of %d items: %.20q (%d bytes), %d", i, len(l), got, len(got), e)
		}
	}
}

func mustNotEncode(t *testing.T, l []api.Item, want api.Errno, what string) {
	t.Helper()
	if got, e := wire.Encode(l); got != "" || e != want {
		t.Errorf("%s: %.20q (%d bytes), %d, want %d", what, got, len(got), e, want)
	}
}

// 3.1
func TestEncodeOfTooManyItems(t *testing.T) {
	for _, n := range []int{1001, 1002, 2000, 65535, 65536, 65537, 66536} {
		mustNotEncode(t, make([]api.Item, n), api.ErrLong, "too many numbers")
		texts := make([]api.Item, n)
		for i := range texts {
			texts[i] = text("")
		}
		mustNotEncode(t, texts, api.ErrLong, "too many texts")
	}
}

// badItems are items that may not be.
func badItems() []api.Item {
	return []api.Item{
		{N: 1, S: "x"}, {S: "x"}, {S: "\x00"}, {N: -1, S: strings.Repeat("x", 65536)},
		{Text: true, N: 1}, {Text: true, N: -1, S: "x"}, {Text: true, N: 1 << 32}, {Text: true, N: math.MinInt64}, {Text: true, N: math.MaxInt64},
		{Text: true, N: 1, S: pattern(65536, 12)},
		text(pattern(65536, 13)), text(pattern(65537, 14)), text(pattern(2*65536, 15)), text(pattern(2*65536+1, 15)),
	}
}

// 3.1, at each place of a list
func TestEncodeOfItemsThatMayNotBe(t *testing.T) {
	for _, bad := range badItems() {
		mustNotEncode(t, []api.Item{bad}, api.ErrShape, "alone")
		for i := range 5 {
			l := []api.Item{number(1), text("a"), number(-1), text(""), number(0)}
			l[i] = bad
			mustNotEncode(t, l, api.ErrShape, "among others")
		}
		l := numbers(1000)
		l[999] = bad
		mustNotEncode(t, l, api.ErrShape, "the last of 1000")
	}
}

// 3.1: one byte more than may be, and many more
func TestEncodeOfTooManyBytes(t *testing.T) {
	for i, l := range fullLists() {
		for j := range l {
			if !l[j].Text {
				continue
			}
			long := slices.Clone(l)
			long[j].S += "x"
			mustNotEncode(t, long, api.ErrLong, "a byte more")
		}
		if len(l) < 1000 {
			mustNotEncode(t, append(slices.Clone(l), text("")), api.ErrLong, "an item more")
		}
		if got, e := wire.Encode(l); len(got) != api.MaxBytes || e != api.OK {
			t.Errorf("full list %d: %d bytes, %d", i, len(got), e)
		}
	}
	for n := 65532; n <= 65535; n++ {
		mustNotEncode(t, []api.Item{text(pattern(n, 16))}, api.ErrLong, "one long text")
	}
	// However many they are, they do not wrap around to few.
	for _, n := range []int{2, 3, 512, 1000} {
		longest := strings.Repeat("x", 65535)
		l := make([]api.Item, n)
		for i := range l {
			l[i] = text(longest)
		}
		mustNotEncode(t, l, api.ErrLong, "many long texts")
	}
	short := make([]api.Item, 1000)
	for i := range short {
		short[i] = text(strings.Repeat("x", 63))
	}
	mustNotEncode(t, short, api.ErrLong, "1000 texts of 63 bytes")
}

// 3.1, R1
func TestEncodeAnswersTheErrorThatIsNamedFirst(t *testing.T) {
	longest := text(strings.Repeat("x", 65535))
	for _, bad := range badItems() {
		mustNotEncode(t, append([]api.Item{bad}, numbers(1000)...), api.ErrLong, "1001 items, the first of them bad")
		mustNotEncode(t, append(numbers(1000), bad), api.ErrLong, "1001 items, the last of them bad")
		mustNotEncode(t, []api.Item{bad, longest, longest}, api.ErrShape, "a bad item, and too many bytes")
		mustNotEncode(t, []api.Item{longest, longest, bad}, api.ErrShape, "too many bytes ahead of a bad item")
	}
}

// R4: the list stays as it is, and what lies behind its length is neither read nor written
func TestEncodeLeavesTheList(t *testing.T) {
	room := []api.Item{number(-7), text("abc"), number(9), text(""), {N: 1, S: "bad"}, {Text: true, N: 1}}
	for n := range len(room) + 1 {
		before := slices.Clone(room)
		got, e := wire.Encode(room[:n])
		if n <= 4 && (got != reference(room[:n]) || e != api.OK) {
			t.Errorf("%d items: % x, %d", n, got, e)
		}
		if n > 4 && (got != "" || e != api.ErrShape) {
			t.Errorf("%d items: % x, %d", n, got, e)
		}
		if !slices.Equal(room, before) {
			t.Errorf("%d items: the list is changed to %#v", n, room)
		}
	}
	long := numbers(2000)
	if got, e := wire.Encode(long[:1000]); got != reference(long[:1000]) || e != api.OK {
		t.Errorf("1000 items with room for more: %d bytes, %d", len(got), e)
	}
	if !slices.Equal(long, numbers(2000)) {
		t.Error("a long list is changed")
	}
}

// R4: what was answered does not change with the list
func TestEncodeKeepsNothing(t *testing.T) {
	l := []api.Item{number(1), text("ab")}
	got, _ := wire.Encode(l)
	l[0], l[1] = text("other"), number(5)
	if got != reference([]api.Item{number(1), text("ab")}) {
		t.Errorf("the answer changed with the list: % x", got)
	}
	if again, e := wire.Encode(l); again != reference(l) || e != api.OK {
		t.Errorf("the changed list: % x, %d", again, e)
	}
}

// R7: a refusal and other calls between leave no trace
func TestEncodeTwice(t *testing.T) {
	l := []api.Item{number(-3), text("abc")}
	first, _ := wire.Encode(l)
	wire.Encode([]api.Item{{S: "bad"}})
	wire.Encode(numbers(1001))
	wire.Decode("\x00\x01x")
	if again, e := wire.Encode(l); again != first || e != api.OK {
		t.Errorf("the same call tells % x, %d", again, e)
	}
}

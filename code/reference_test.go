package code_test

import (
	"encoding/binary"
	"fmt"
	"math"
	"slices"
	"strings"
	"testing"

	"capstan/api"
	"capstan/code"
)

// letters has a letter for each type, at the type's number: types are told by letters here.
const letters = "?BIDT"

// cells answers the types that the letters tell.
func cells(s string) []int {
	var l []int
	for _, c := range s {
		l = append(l, strings.IndexRune(letters, c))
	}
	return l
}

func letter(t int) string {
	if t < 1 || t > 4 {
		return "none"
	}
	return letters[t : t+1]
}

// has answers whether t is one of the types that the letters tell.
func has(s string, t int) bool { return strings.Contains(s, letter(t)) }

func fits(t int, n int64) bool {
	switch letter(t) {
	case "B":
		return n == 0 || n == 1
	case "I":
		return n >= -32768 && n <= 32767
	case "D", "T":
		return n >= -2147483648 && n <= 2147483647
	}
	return false
}

// ofTwo and ofOne answer the types that the operations of two values, and of one, are of: chapter 4's words.
func ofTwo(op int) string {
	switch op {
	case api.NAdd, api.NSub, api.NLt, api.NLe, api.NGt, api.NGe:
		return "IDT"
	case api.NMul, api.NDiv, api.NMod:
		return "ID"
	case api.NAnd, api.NOr, api.NXor:
		return "BID"
	case api.NEq, api.NNe:
		return "BIDT"
	}
	return ""
}

func ofOne(op int) string {
	switch op {
	case api.NNeg:
		return "IDT"
	case api.NNot:
		return "BID"
	}
	return ""
}

// fieldsOf answers the types of the fields of a kind of block: chapter 9's table.
func fieldsOf(kind int) string {
	switch kind {
	case api.BTon, api.BTof, api.BTp:
		return "BTBTTB"
	case api.BCtu, api.BCtd:
		return "BBIBIB"
	case api.BRtrig, api.BFtrig, api.BSr, api.BRs:
		return "BBB"
	case api.BQuad:
		return "BBBDBI"
	}
	return ""
}

// shown answers the types of so many cells of x from one on, as letters, or false, if they are not all there.
func shown(x api.Image, from, many int) (string, bool) {
	s := ""
	for n := range many {
		if from < 0 || from > len(x.Types) || from+n >= len(x.Types) {
			return "", false
		}
		s += letter(x.Types[from+n])
	}
	return s, true
}

// right answers whether the instruction may be in x, by the chapter's table.
func right(x api.Image, i api.Instr) bool {
	isCell := i.A >= 0 && i.A < len(x.Types)
	isPlace := i.A >= 0 && i.A < len(x.Code)
	switch i.Op {
	case api.IPush:
		return fits(i.A, i.N) && i.B == 0
	case api.ILoad, api.IStore:
		return isCell && i.B == 0 && i.N == 0
	case api.ILoadX, api.IStoreX:
		if i.B < 1 || i.B > 32 || i.N != 0 {
			return false
		}
		s, there := shown(x, i.A, i.B)
		return there && s == strings.Repeat(s[:1], i.B)
	case api.ITwo:
		return has(ofTwo(i.A), i.B) && i.N == 0
	case api.IOne:
		return has(ofOne(i.A), i.B) && i.N == 0
	case api.ITo:
		return (i.A == api.TBool && i.B == api.TBool || has("IDT", i.A) && has("IDT", i.B)) && i.N == 0
	case api.IJump, api.IFalse:
		return isPlace && i.B == 0 && i.N == 0
	case api.ICall:
		want := fieldsOf(i.A)
		s, there := shown(x, i.B, len(want))
		return want != "" && there && s == want && i.N == 0
	case api.IEnd:
		return i.A == 0 && i.B == 0 && i.N == 0
	}
	return false
}

// keywords are chapter 6's.
const keywords = " PROGRAM END_PROGRAM VAR VAR_INPUT VAR_OUTPUT END_VAR ARRAY OF BOOL INT DINT TIME TON TOF TP CTU CTD R_TRIG F_TRIG SR RS QUAD IF THEN ELSIF ELSE END_IF CASE END_CASE WHILE DO END_WHILE FOR TO BY END_FOR REPEAT UNTIL END_REPEAT EXIT RETURN AND OR XOR NOT MOD TRUE FALSE TO_INT TO_DINT TO_TIME "

func isName(s string) bool {
	if len(s) < 1 || len(s) > 24 || strings.Contains("0123456789", s[:1]) || strings.Contains(keywords, " "+s+" ") {
		return false
	}
	for _, c := range []byte(s) {
		if !strings.Contains("ABCDEFGHIJKLMNOPQRSTUVWXYZ_0123456789", string(c)) || c > 127 {
			return false
		}
	}
	return true
}

// checked answers what Check must, by the chapter's words.
func checked(x api.Image) (int, api.Errno) {
	if !isName(x.Name) || len(x.Types) != len(x.First) || len(x.Types) > 1024 || len(x.Code) < 1 || len(x.Code) > 4096 {
		return -1, api.ErrCode
	}
	for k, t := range x.Types {
		if !fits(t, x.First[k]) {
			return -1, api.ErrCode
		}
	}
	both := append(slices.Clone(x.In), x.Out...)
	slices.Sort(both)
	for k, c := range both {
		if c < 0 || c >= len(x.Types) || k > 0 && both[k-1] == c {
			return -1, api.ErrCode
		}
	}
	at := slices.IndexFunc(x.Code, func(i api.Instr) bool { return !right(x, i) })
	if at >= 0 {
		return at, api.ErrCode
	}
	return 0, api.OK
}

// number and text are the bytes of an item.
func number(n int64) string {
	return "#" + string(binary.BigEndian.AppendUint64(nil, uint64(n)))
}

func text(s string) string {
	return "$" + string(binary.BigEndian.AppendUint16(nil, uint16(len(s)))) + s
}

// list answers the bytes of a list of these items.
func list(items ...string) string {
	return string(binary.BigEndian.AppendUint16(nil, uint16(len(items)))) + strings.Join(items, "")
}

func instr(i api.Instr) string {
	b := []byte{byte(i.Op)}
	b = binary.BigEndian.AppendUint16(b, uint16(i.A))
	b = binary.BigEndian.AppendUint16(b, uint16(i.B))
	n := binary.BigEndian.AppendUint64(nil, uint64(i.N))
	return string(append(b, n[2:]...))
}

// items answers the items of an image, each as its bytes.
func items(x api.Image) []string {
	l := []string{text(x.Name), number(int64(len(x.Types)))}
	for k := range x.Types {
		l = append(l, number(int64(x.Types[k])), number(x.First[k]))
	}
	for _, lines := range [][]int{x.In, x.Out} {
		l = append(l, number(int64(len(lines))))
		for _, c := range lines {
			l = append(l, number(int64(c)))
		}
	}
	all := ""
	for _, i := range x.Code {
		all += instr(i)
	}
	return append(l, text(all))
}

// parcel is a list's bytes that are taken apart; bad, if they are none, or not what was asked for.
type parcel struct {
	b   string
	bad bool
}

func (p *parcel) take(n int) string {
	if p.bad || len(p.b) < n {
		p.bad = true
		return strings.Repeat("\x00", n)
	}
	s := p.b[:n]
	p.b = p.b[n:]
	return s
}

func (p *parcel) number() int64 {
	p.bad = p.bad || p.take(1) != "#"
	return int64(binary.BigEndian.Uint64([]byte(p.take(8))))
}

func (p *parcel) text() string {
	p.bad = p.bad || p.take(1) != "$"
	return p.take(int(binary.BigEndian.Uint16([]byte(p.take(2)))))
}

func (p *parcel) many() int {
	n := p.number()
	if n < 0 || n > 1000 {
		p.bad = true
		return 0
	}
	return int(n)
}

// decoded answers what Decode must, by the chapter's words: item by item, and whatever is otherwise is refused.
func decoded(b string) (api.Image, api.Errno) {
	p := &parcel{b: b, bad: len(b) > 65536}
	count := int(binary.BigEndian.Uint16([]byte(p.take(2))))
	x := api.Image{Name: p.text()}
	for range p.many() {
		x.Types = append(x.Types, int(p.number()))
		x.First = append(x.First, p.number())
	}
	for range p.many() {
		x.In = append(x.In, int(p.number()))
	}
	for range p.many() {
		x.Out = append(x.Out, int(p.number()))
	}
	c := p.text()
	for ; len(c) >= 11; c = c[11:] {
		n := int64(binary.BigEndian.Uint32([]byte(c[7:11])))
		x.Code = append(x.Code, api.Instr{
			Op: int(c[0]),
			A:  int(c[1])*256 + int(c[2]),
			B:  int(c[3])*256 + int(c[4]),
			N:  n + int64(int16(binary.BigEndian.Uint16([]byte(c[5:7]))))<<32,
		})
	}
	if p.bad || p.b != "" || c != "" || count > 1000 || count != 5+2*len(x.Types)+len(x.In)+len(x.Out) {
		return api.Image{}, api.ErrCode
	}
	if _, e := checked(x); e != api.OK {
		return api.Image{}, api.ErrCode
	}
	return x, api.OK
}

func same(x, y api.Image) bool {
	return x.Name == y.Name && slices.Equal(x.Types, y.Types) && slices.Equal(x.First, y.First) &&
		slices.Equal(x.In, y.In) && slices.Equal(x.Out, y.Out) && slices.Equal(x.Code, y.Code)
}

func isNothing(x api.Image) bool { return same(x, api.Image{}) }

func copied(x api.Image) api.Image {
	x.Types, x.First = slices.Clone(x.Types), slices.Clone(x.First)
	x.In, x.Out, x.Code = slices.Clone(x.In), slices.Clone(x.Out), slices.Clone(x.Code)
	return x
}

// imageOf answers an image of these cells, each 0 at first, and this code.
func imageOf(types string, l ...api.Instr) api.Image {
	return api.Image{Name: "P", Types: cells(types), First: make([]int64, len(types)), Code: l}
}

// brief answers something as a text that can be read, however much it is.
func brief(x any) string { return fmt.Sprintf("%.600q", fmt.Sprint(x)) }

// holdCheck holds Check of x against the chapter's words, and that Encode refuses just so.
func holdCheck(t *testing.T, x api.Image) {
	t.Helper()
	wantAt, want := checked(x)
	if at, e := code.Check(x); at != wantAt || e != want {
		t.Fatalf("Check of %s: %d, %d, not %d, %d", brief(x), at, e, wantAt, want)
	}
	s, e := code.Encode(x)
	if want == api.OK && 5+2*len(x.Types)+len(x.In)+len(x.Out) > 1000 {
		want = api.ErrLong
	}
	if e != want || e != api.OK && s != "" || e == api.OK && s != list(items(x)...) {
		t.Fatalf("Encode of %s: %.600q, %d, not %d", brief(x), s, e, want)
	}
}

// holdDecode holds Decode of b against the chapter's words.
func holdDecode(t *testing.T, b string) {
	t.Helper()
	want, wantE := decoded(b)
	x, e := code.Decode(b)
	if e != wantE || !same(x, want) {
		t.Fatalf("Decode of %.600q: %s, %d, not %s, %d", b, brief(x), e, brief(want), wantE)
	}
}

// refuses holds that x may not be, and where.
func refuses(t *testing.T, x api.Image, wantAt int) {
	t.Helper()
	if at, e := code.Check(x); at != wantAt || e != api.ErrCode {
		t.Errorf("Check of %s: %d, %d, not %d, ErrCode", brief(x), at, e, wantAt)
	}
	if s, e := code.Encode(x); s != "" || e != api.ErrCode {
		t.Errorf("Encode of %s: %.600q, %d, not ErrCode", brief(x), s, e)
	}
}

// takes holds that x may be.
func takes(t *testing.T, x api.Image) {
	t.Helper()
	if at, e := code.Check(x); at != 0 || e != api.OK {
		t.Errorf("Check of %s: %d, %d", brief(x), at, e)
	}
}

// edges are numbers of which each is just beside, or at, an edge of something, or one of a thing modulo a power of 2.
var edges = []int{math.MinInt, math.MinInt + 1, math.MinInt32, -65535, -32769, -32768, -256, -255, -2, -1,
	31, 32, 33, 34, 127, 128, 255, 256, 257, 258, 1023, 1024, 4095, 4096, 32767, 32768, 40000, 65535, 65536, 65537, 65538,
	math.MaxInt32, math.MaxInt32 + 1, 1 << 32, 1<<32 + 1, 1<<32 + 2, 1<<47 - 1, 1 << 47, 1<<48 + 1, math.MaxInt - 32, math.MaxInt - 1, math.MaxInt}

package vm_test

import (
	"fmt"
	"slices"
	"strconv"
	"strings"
	"testing"

	"capstan/api"
	"capstan/block"
	"capstan/code"
	"capstan/typed"
	"capstan/vm"
)

// Types are letters here.
const letters = "BIDT"

func typeOf(s string) int { return 1 + strings.Index(letters, s) }

// laid has a cell of each type from 0 on, arrays of 2 BOOLs at 4, 3 INTs at 6, 2 DINTs at 9, 2 TIMEs at 11, and blocks: TON at 13, CTU at 19, SR at 25, QUAD at 28.
const laid = letters + "BB" + "III" + "DD" + "TT" + "BTBTTB" + "BBIBIB" + "BBB" + "BBBDBI"

// ops are the operations' signs, from 1 on.
var ops = strings.Fields("+ - * / mod and or xor = <> < <= > >= neg not")

// opcodes has what each instruction is called, and what its words are: types, operations, values, numbers.
var opcodes = map[string]struct {
	op   int
	what string
}{
	"push": {api.IPush, "tv"}, "load": {api.ILoad, "n"}, "store": {api.IStore, "n"}, "loadx": {api.ILoadX, "nn"}, "storex": {api.IStoreX, "nn"}, "two": {api.ITwo, "ot"}, "one": {api.IOne, "ot"},
	"to": {api.ITo, "tt"}, "jump": {api.IJump, "n"}, "false": {api.IFalse, "n"}, "call": {api.ICall, "nn"}, "end": {api.IEnd, ""},
}

// instrs answers the instructions of a text: push T 5, load 3, two + I, .., a ; behind each.
func instrs(text string) []api.Instr {
	var l []api.Instr
	for s := range strings.SplitSeq(text, ";") {
		words := strings.Fields(s)
		if len(words) == 0 {
			continue
		}
		row, there := opcodes[words[0]]
		if !there || len(row.what) != len(words)-1 {
			panic("no instruction: " + s)
		}
		i := api.Instr{Op: row.op}
		to := []*int{&i.A, &i.B}
		for k, word := range words[1:] {
			switch row.what[k] {
			case 't':
				*to[k] = typeOf(word)
			case 'o':
				*to[k] = 1 + slices.Index(ops, word)
			case 'v':
				i.N, _ = strconv.ParseInt(word, 10, 64)
			default:
				*to[k], _ = strconv.Atoi(word)
			}
		}
		l = append(l, i)
	}
	return l
}

// imageOf answers an image of these cells, each 0 at first, and this code.
func imageOf(types string, l []api.Instr) api.Image {
	x := api.Image{Name: "P", First: make([]int64, len(types)), Code: l}
	for _, s := range types {
		x.Types = append(x.Types, typeOf(string(s)))
	}
	return x
}

// image answers an image of the laid cells and the code that the text is.
func image(text string) api.Image { return imageOf(laid, instrs(text)) }

// with answers so many cells, that are 0 but for those of the text: 1=5 6=-7.
func with(many int, text string) []int64 {
	l := make([]int64, many)
	for _, s := range strings.Fields(text) {
		at, n, _ := strings.Cut(s, "=")
		cell, _ := strconv.Atoi(at)
		l[cell], _ = strconv.ParseInt(n, 10, 64)
	}
	return l
}

func machine(t *testing.T, x api.Image) *vm.Machine {
	t.Helper()
	m, at, e := vm.New(x)
	if m == nil || at != 0 || e != api.OK {
		t.Fatalf("%s: %d, %d", brief(x), at, e)
	}
	return m
}

func brief(x api.Image) string {
	var l []string
	for _, i := range x.Code {
		l = append(l, code.Show(i))
	}
	return fmt.Sprintf("%.600s", strings.Join(l, "; "))
}

// spans has the least and the greatest value of each type.
var spans = [][2]int64{{}, {0, 1}, {-32768, 32767}, {-2147483648, 2147483647}, {-2147483648, 2147483647}}

func fits(t int, n int64) bool { return spans[t][0] <= n && n <= spans[t][1] }

// wrapped answers n wrapped into the type t.
func wrapped(t int, n int64) int64 {
	period := spans[t][1] - spans[t][0] + 1
	n = (n - spans[t][0]) % period
	return (n+period)%period + spans[t][0]
}

func truth(is bool) int64 { return map[bool]int64{true: 1}[is] }

// ofTwo answers what ITwo leaves, or false at a division by 0.
func ofTwo(op, t int, a, b int64) (int64, bool) {
	switch op {
	case api.NAdd:
		return wrapped(t, a+b), true
	case api.NSub:
		return wrapped(t, a-b), true
	case api.NMul:
		return wrapped(t, a*b), true
	case api.NDiv, api.NMod:
		if b == 0 {
			return 0, false
		}
		return wrapped(t, map[int]func() int64{api.NDiv: func() int64 { return a / b }, api.NMod: func() int64 { return a - a/b*b }}[op]()), true
	case api.NAnd:
		return a & b, true
	case api.NOr:
		return a | b, true
	case api.NXor:
		return a ^ b, true
	}
	sign := slices.Index([]bool{a < b, a == b, a > b}, true)
	return truth(strings.Contains(map[int]string{api.NEq: "1", api.NNe: "02", api.NLt: "0", api.NLe: "01", api.NGt: "2", api.NGe: "12"}[op], strconv.Itoa(sign))), true
}

func ofOne(op, t int, a int64) int64 {
	switch {
	case op == api.NNeg:
		return wrapped(t, -a)
	case t == api.TBool:
		return 1 - a
	}
	return -1 - a
}

// ran is all that there is of a scan.
type ran struct {
	vm.End
	places []int
}

// run answers what a scan must be, by the chapter's words; the image is verified, and cells, now and budget are right.
func run(x api.Image, cells []int64, now int64, budget int) ran {
	s := ran{End: vm.End{Cells: slices.Clone(cells)}}
	var stack []int64
	take := func() int64 {
		n := stack[len(stack)-1]
		stack = stack[:len(stack)-1]
		return n
	}
	over := func(trap int) ran {
		s.Trap = trap
		return s
	}
	for s.Used < budget {
		s.Used++
		s.places = append(s.places, s.At)
		i := x.Code[s.At]
		next := s.At + 1
		switch i.Op {
		case api.IPush:
			stack = append(stack, i.N)
		case api.ILoad:
			stack = append(stack, s.Cells[i.A])
		case api.IStore:
			s.Cells[i.A] = take()
		case api.ILoadX:
			index := take()
			if index < 0 || index > int64(i.B)-1 {
				return over(api.TIndex)
			}
			stack = append(stack, s.Cells[int64(i.A)+index])
		case api.IStoreX:
			n, index := take(), take()
			if index < 0 || index > int64(i.B)-1 {
				return over(api.TIndex)
			}
			s.Cells[int64(i.A)+index] = n
		case api.ITwo:
			b, a := take(), take()
			n, is := ofTwo(i.A, i.B, a, b)
			if !is {
				return over(api.TZero)
			}
			stack = append(stack, n)
		case api.IOne:
			stack = append(stack, ofOne(i.A, i.B, take()))
		case api.ITo:
			stack = append(stack, wrapped(i.B, take()))
		case api.IJump:
			next = i.A
		case api.IFalse:
			if take() == 0 {
				next = i.A
			}
		case api.ICall:
			fields, _ := typed.Fields(i.A)
			l, e := block.Step(i.A, slices.Clone(s.Cells[i.B:i.B+len(fields)]), now)
			if e != api.OK {
				panic(e)
			}
			copy(s.Cells[i.B:], l)
		case api.IEnd:
			return over(api.TDone)
		}
		s.At = next
	}
	return over(api.TBudget)
}

// tells fails the test unless Scan and Trace tell this of the machine, and leave the cells as they are.
func tells(t *testing.T, m *vm.Machine, cells []int64, now int64, budget int, want ran) {
	t.Helper()
	given := slices.Clone(cells)
	got, e := m.Scan(given, now, budget)
	places, f := m.Trace(given, now, budget)
	if e != api.OK || f != api.OK || !slices.Equal(got.Cells, want.Cells) || got.Used != want.Used || got.Trap != want.Trap || got.At != want.At || !slices.Equal(places, want.places) {
		t.Errorf("%s; now %d, budget %d, %v: Scan %v, %d; Trace %.200v, %d; not %.600v", brief(m.Image()), now, budget, cells, got, e, places, f, want)
	}
	if !slices.Equal(given, cells) {
		t.Errorf("%s: the cells handed in are changed", brief(m.Image()))
	}
}

// holds fails the test unless the machine of x tells what the chapter's words do; it answers that.
func holds(t *testing.T, m *vm.Machine, x api.Image, cells []int64, now int64, budget int) ran {
	t.Helper()
	want := run(x, cells, now, budget)
	tells(t, m, cells, now, budget, want)
	return want
}

// end is how a scan must end: its cells as a text, how many ticks it used, its trap, and the place.
type end struct {
	cells          string
	used, trap, at int
}

// ends fails the test unless a scan of the text's code, with the laid cells as the text has them, within the budget, ends so; and so does one by the chapter's words.
func ends(t *testing.T, text, cells string, budget int, want end) {
	t.Helper()
	endsAt(t, text, cells, 0, budget, want)
}

func endsAt(t *testing.T, text, cells string, now int64, budget int, want end) {
	t.Helper()
	x := image(text)
	m := machine(t, x)
	given := with(len(laid), cells)
	is := vm.End{Cells: with(len(laid), want.cells), Used: want.used, Trap: want.trap, At: want.at}
	tells(t, m, given, now, budget, ran{End: is, places: holds(t, m, x, given, now, budget).places})
}

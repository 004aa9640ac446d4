package verify_test

import (
	"fmt"
	"slices"
	"strconv"
	"strings"
	"testing"

	"capstan/api"
	"capstan/code"
	"capstan/verify"
)

// Types are letters here: a stack is a text of them, the lowest first.
const letters = "BIDT"

func letter(t int) string { return letters[t-1 : t] }

func typeOf(s string) int { return 1 + strings.Index(letters, s) }

// laid has a cell of each type from 0 on, arrays of 2 BOOLs at 4, 3 INTs at 6, 2 DINTs at 9, 2 TIMEs at 11, and blocks: TON at 13, CTU at 19, SR at 25, QUAD at 28.
const laid = letters + "BB" + "III" + "DD" + "TT" + "BTBTTB" + "BBIBIB" + "BBB" + "BBBDBI"

// ops are the operations' signs, from 1 on.
var ops = strings.Fields("+ - * / mod and or xor = <> < <= > >= neg not")

// opcodes has what each instruction is called, and which of its words are types and operations.
var opcodes = map[string]struct {
	op   int
	what string
}{
	"push": {api.IPush, "t"}, "load": {api.ILoad, "n"}, "store": {api.IStore, "n"}, "loadx": {api.ILoadX, "nn"}, "storex": {api.IStoreX, "nn"}, "two": {api.ITwo, "ot"}, "one": {api.IOne, "ot"},
	"to": {api.ITo, "tt"}, "jump": {api.IJump, "n"}, "false": {api.IFalse, "n"}, "call": {api.ICall, "nn"}, "end": {api.IEnd, ""},
}

// instrs answers the instructions of a text: push T, load 3, two + I, .., a ; behind each.
func instrs(text string) []api.Instr {
	var l []api.Instr
	for s := range strings.SplitSeq(text, ";") {
		words := strings.Fields(s)
		if len(words) == 0 {
			continue
		}
		row, there := opcodes[words[0]]
		if !there || len(row.what) != len(words)-1 {
			panic("no instruction: " + s)
		}
		var n [2]int
		for k, word := range words[1:] {
			switch row.what[k] {
			case 't':
				n[k] = typeOf(word)
			case 'o':
				n[k] = 1 + slices.Index(ops, word)
			default:
				n[k], _ = strconv.Atoi(word)
			}
		}
		l = append(l, api.Instr{Op: row.op, A: n[0], B: n[1]})
	}
	return l
}

// imageOf answers an image of these cells, each 0 at first, and this code.
func imageOf(types string, l []api.Instr) api.Image {
	x := api.Image{Name: "P", First: make([]int64, len(types)), Code: l}
	for _, s := range types {
		x.Types = append(x.Types, typeOf(string(s)))
	}
	return x
}

// image answers an image of the laid cells and the code that the text is.
func image(text string) api.Image { return imageOf(laid, instrs(text)) }

// outcome is all that is told of an image.
type outcome struct {
	at      int
	e       api.Errno
	deep    int
	reached string // a 1 of each instruction that is reached, a 0 of the others
}

func shown(reached []bool) string {
	s := ""
	for _, r := range reached {
		s += strconv.Itoa(map[bool]int{true: 1}[r])
	}
	return s
}

// takes answers what an instruction takes, the topmost first: of each the types that may lie there.
func takes(x api.Image, i api.Instr) []string {
	const index = "ID"
	switch i.Op {
	case api.IStore:
		return []string{letter(x.Types[i.A])}
	case api.ILoadX:
		return []string{index}
	case api.IStoreX:
		return []string{letter(x.Types[i.A]), index}
	case api.ITwo:
		return []string{letter(i.B), letter(i.B)}
	case api.IOne:
		return []string{letter(i.B)}
	case api.ITo:
		return []string{letter(i.A)}
	case api.IFalse:
		return []string{"B"}
	}
	return nil
}

// leaves answers what an instruction leaves.
func leaves(x api.Image, i api.Instr) string {
	switch i.Op {
	case api.IPush:
		return letter(i.A)
	case api.ILoad, api.ILoadX:
		return letter(x.Types[i.A])
	case api.ITwo:
		if i.A >= api.NEq && i.A <= api.NGe {
			return "B"
		}
		return letter(i.B)
	case api.IOne, api.ITo:
		return letter(i.B)
	}
	return ""
}

// after answers the stack behind an instruction, or false, if there is too little on it, another type, or too much behind it.
func after(x api.Image, i api.Instr, stack string) (string, bool) {
	for _, may := range takes(x, i) {
		if stack == "" || !strings.Contains(may, stack[len(stack)-1:]) {
			return "", false
		}
		stack = stack[:len(stack)-1]
	}
	stack += leaves(x, i)
	return stack, len(stack) <= 64
}

// ways answers with what the instruction at a place goes on.
func ways(i api.Instr, at int) []int {
	next, place := []int{at + 1}, []int{i.A}
	switch i.Op {
	case api.IEnd:
		return nil
	case api.IJump:
		return place
	case api.IFalse:
		return append(next, place...)
	}
	return next
}

// verified answers what must be told of an image, by the chapter's words.
func verified(x api.Image) outcome {
	if at, e := code.Check(x); e != api.OK {
		return outcome{at: at, e: e}
	}
	stacks := map[int]string{0: ""}
	looked := make([]bool, len(x.Code))
	deep := 0
	for {
		at := 0
		for ; at < len(x.Code); at++ {
			if _, is := stacks[at]; is && !looked[at] {
				break
			}
		}
		if at == len(x.Code) {
			break
		}
		looked[at] = true
		stack, right := after(x, x.Code[at], stacks[at])
		if !right {
			return outcome{at: at, e: api.ErrStack}
		}
		deep = max(deep, len(stack))
		for _, to := range ways(x.Code[at], at) {
			if to >= len(x.Code) {
				return outcome{at: at, e: api.ErrJump}
			}
			if before, is := stacks[to]; is && before != stack {
				return outcome{at: to, e: api.ErrStack}
			}
			stacks[to] = stack
		}
	}
	return outcome{deep: deep, reached: shown(looked)}
}

func brief(x api.Image) string {
	var l []string
	for _, i := range x.Code {
		l = append(l, code.Show(i))
	}
	return fmt.Sprintf("%.600s", strings.Join(l, "; "))
}

// tells fails the test unless Check, Deep and Reached tell this of x.
func tells(t *testing.T, x api.Image, want outcome) {
	t.Helper()
	at, e := verify.Check(x)
	deep, e2 := verify.Deep(x)
	reached, e3 := verify.Reached(x)
	if at != want.at || e != want.e || e2 != want.e || e3 != want.e || deep != want.deep || shown(reached) != want.reached {
		t.Errorf("%s: Check %d, %d; Deep %d, %d; Reached %.99s, %d; not %.400v", brief(x), at, e, deep, e2, shown(reached), e3, want)
	}
}

// refuses fails the test unless all three refuse the image of the code.
func refuses(t *testing.T, text string, at int, e api.Errno) {
	t.Helper()
	tells(t, image(text), outcome{at: at, e: e})
}

// passes fails the test unless the image of the code is verified, so deep; reached tells of each instruction whether it is reached.
func passes(t *testing.T, text string, deep int, reached string) {
	t.Helper()
	tells(t, image(text), outcome{deep: deep, reached: reached})
}

// holds fails the test unless all three tell of x what the chapter's words do; it answers that.
func holds(t *testing.T, x api.Image) outcome {
	t.Helper()
	want := verified(x)
	tells(t, x, want)
	return want
}

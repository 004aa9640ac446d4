package verify_test

import (
	"fmt"
	"math/rand"
	"strings"
	"testing"

	"capstan/api"
	"capstan/code"
	"capstan/gen"
	"capstan/verify"
)

// coder makes random code: mostly instructions that fit the stack that lies there, if all goes from the front on.
type coder struct {
	*rand.Rand
	x     api.Image
	wrong int            // in how many of a thousand places any instruction is taken
	ahead []string       // of each place up to now: the stack that is meant to lie there
	meant map[int]string // of places further on: the stack that a jump leads there with
}

// any answers an instruction that may be, whatever lies there.
func (c coder) any(long int) api.Instr {
	for {
		i := api.Instr{Op: 1 + c.Intn(12), A: c.Intn(17), B: c.Intn(5)}
		switch i.Op {
		case api.IPush:
			i.A, i.B, i.N = 1+c.Intn(4), 0, int64(c.Intn(2))
		case api.ILoad, api.IStore:
			i.A, i.B = c.Intn(len(c.x.Types)), 0
		case api.ILoadX, api.IStoreX:
			i.A = c.Intn(len(c.x.Types))
		case api.ICall:
			i.B = c.Intn(len(c.x.Types))
		case api.IJump, api.IFalse:
			i.A, i.B = c.Intn(long), 0
		case api.IEnd:
			i.A, i.B = 0, 0
		}
		x := c.x
		x.Code = []api.Instr{i}
		if i.Op == api.IJump || i.Op == api.IFalse {
			return i
		}
		if _, e := code.Check(x); e == api.OK {
			return i
		}
	}
}

// place answers a place that is meant to have the stack, or any.
func (c coder) place(stack string, long int) int {
	if at := c.Intn(long); at > len(c.ahead) && c.meant[at] == "" {
		c.meant[at] = stack
		return at
	}
	for range c.Intn(40) {
		if at := c.Intn(len(c.ahead)); c.ahead[at] == stack {
			return at
		}
	}
	return c.Intn(long)
}

// fitting answers an instruction that fits the stack, and what lies behind it.
func (c coder) fitting(stack string, long int) (api.Instr, string) {
	for {
		i := c.any(long)
		left, right := after(c.x, i, stack)
		if !right || len(left) > 6 && c.Intn(3) > 0 || (i.Op == api.IEnd || i.Op == api.IJump) && c.Intn(10) > 0 {
			continue
		}
		if i.Op == api.IJump || i.Op == api.IFalse {
			i.A = c.place(left, long)
		}
		return i, left
	}
}

// image answers an image of so much code.
func (c coder) image(long int) api.Image {
	stack := ""
	c.ahead, c.meant = nil, map[int]string{}
	falls := true
	for at := range long {
		if !falls {
			stack = c.meant[at]
		}
		c.ahead = append(c.ahead, stack)
		if c.Intn(1000) < c.wrong {
			c.x.Code = append(c.x.Code, c.any(long))
			continue
		}
		if at == long-1 && c.Intn(8) > 0 {
			c.x.Code = append(c.x.Code, api.Instr{Op: api.IEnd})
			break
		}
		i, left := c.fitting(stack, long)
		c.x.Code = append(c.x.Code, i)
		stack = left
		falls = i.Op != api.IJump && i.Op != api.IEnd
	}
	return c.x
}

// 15.1, 15.2, P1: random images
func TestRandomImages(t *testing.T) {
	r := rand.New(rand.NewSource(15))
	told := map[api.Errno]int{}
	behind, gaps := 0, 0
	for n := range 60000 {
		c := coder{Rand: r, x: imageOf(laid, nil), wrong: n % 3 * 50}
		x := c.image(1 + r.Intn(2+n%40))
		got := holds(t, x)
		told[got.e]++
		if got.e == api.ErrStack && got.at < len(x.Code)-1 {
			behind++
		}
		if got.e == api.OK && strings.Contains(got.reached, "01") {
			gaps++
		}
		if t.Failed() {
			return
		}
	}
	if told[api.OK] < 8000 || told[api.ErrStack] < 8000 || told[api.ErrJump] < 2000 || told[api.ErrCode] > 0 || behind < 5000 || gaps < 2500 {
		t.Error(told, behind, gaps)
	}
}

// 15.1, P1: code of jumps and a few others, so that places are reached in many ways
func TestRandomJumps(t *testing.T) {
	r := rand.New(rand.NewSource(151))
	told := map[api.Errno]int{}
	for n := range 60000 {
		long := 2 + r.Intn(14)
		var l []api.Instr
		for range long {
			i := []api.Instr{{Op: api.ILoad}, {Op: api.IFalse}, {Op: api.IJump}, {Op: api.IEnd}, {Op: api.IPush, A: 1 + r.Intn(2)}, {Op: api.IStore, A: r.Intn(2)}, {Op: api.IOne, A: api.NNot, B: api.TBool}}[r.Intn(4+n%4)]
			if i.Op == api.IJump || i.Op == api.IFalse {
				i.A = r.Intn(long)
			}
			l = append(l, i)
			if i.Op == api.ILoad && r.Intn(2) == 0 && len(l) < long {
				l = append(l, api.Instr{Op: api.IFalse, A: r.Intn(long)})
			}
			if len(l) >= long {
				break
			}
		}
		told[holds(t, imageOf("BI", l)).e]++
		if t.Failed() {
			return
		}
	}
	if told[api.OK] < 5000 || told[api.ErrStack] < 5000 || told[api.ErrJump] < 2000 {
		t.Error(told)
	}
}

// P1, R5: images of anything
func TestAnyImages(t *testing.T) {
	r := rand.New(rand.NewSource(152))
	edges := []int{-1 << 63, -1 << 31, -256, -2, -1, 5, 13, 17, 31, 32, 33, 63, 64, 65, 255, 256, 257, 1023, 1024, 4095, 4096, 65535, 65536, 1 << 31, 1 << 32, 1<<63 - 1}
	some := func(most int) int {
		if r.Intn(30) == 0 {
			return edges[r.Intn(len(edges))]
		}
		return r.Intn(most)
	}
	told := map[api.Errno]int{}
	for range 40000 {
		x := imageOf("BIDTIIBTBTTB"[:r.Intn(13)], nil)
		long := r.Intn(6)
		for range long {
			i := api.Instr{Op: some(14), A: some(8), B: some(5), N: int64(some(3))}
			if c := (coder{Rand: r, x: x}); len(x.Types) > 0 && r.Intn(12) > 0 {
				i = c.any(long)
			}
			x.Code = append(x.Code, i)
		}
		if r.Intn(10) == 0 && len(x.Types) > 0 {
			x.Types[r.Intn(len(x.Types))] = some(6)
		}
		if r.Intn(10) == 0 {
			x.In = append(x.In, some(13))
		}
		told[holds(t, x).e]++
		if t.Failed() {
			return
		}
	}
	if told[api.ErrCode] < 5000 || told[api.OK] < 500 || told[api.ErrStack] < 500 || told[api.ErrJump] < 200 {
		t.Error(told)
	}
}

// writer writes random statements that are right.
type writer struct{ *rand.Rand }

func (w writer) pick(words string) string {
	l := strings.Fields(words)
	return strings.ReplaceAll(l[w.Intn(len(l))], "~", " ")
}

// value answers an expression that fits the type, with others within up to so deep.
func (w writer) value(y, depth int) string {
	if depth == 0 || w.Intn(3) == 0 {
		return w.pick([]string{"b i o t.q s.q1 xb[1] true false 1<2", "n on in1 x[0] k.cv 5 -7 32767 q.last 7/0", "d xd[0] q.cv 5 -70000 200*200", "e xt[5] t.et t#5s"}[y-1])
	}
	in := func(y int) string { return "(" + w.value(y, depth-1) + ")" }
	if y == api.TBool {
		of := 1 + w.Intn(4)
		signs := "= <>"
		if of != api.TBool {
			signs += " < <= > >="
		} else if w.Intn(2) == 0 {
			return "not " + in(y)
		}
		return in(of) + w.pick(signs) + in(of)
	}
	switch w.Intn(4) {
	case 0:
		return w.pick([]string{"", "x", "xd", "xt"}[y-1]) + "[" + w.value(api.TInt+w.Intn(2), depth-1) + "]"
	case 1:
		return []string{"", "to_int", "to_dint", "to_time"}[y-1] + in(api.TInt+w.Intn(3))
	case 2:
		return "- " + in(y)
	}
	if y == api.TTime {
		return in(y) + w.pick("+ -") + in(y)
	}
	return in(y) + w.pick("+ - * / ~mod~ ~and~ ~or~ ~xor~") + in(y)
}

func (w writer) of(y int) string { return w.value(y, w.Intn(6)) }

func (w writer) list(depth int, loop bool) string {
	s := ""
	for range w.Intn(4) {
		s += w.statement(depth, loop) + "; "
	}
	return s
}

func (w writer) statement(depth int, loop bool) string {
	kind := w.Intn(9)
	if depth == 0 {
		kind = w.Intn(3)
	}
	in := func(loop bool) string { return w.list(depth-1, loop) }
	switch kind {
	case 0:
		y := 1 + w.Intn(4)
		return []string{"b", "on", "d", "e"}[y-1] + " := " + w.of(y)
	case 1:
		y := 1 + w.Intn(4)
		return []string{"xb", "x", "xd", "xt"}[y-1] + "[" + w.of(api.TInt+w.Intn(2)) + "] := " + w.of(y)
	case 2:
		if loop && w.Intn(3) == 0 {
			return "exit"
		}
		return []string{"return", "t(in := " + w.of(api.TBool) + ", pt := " + w.of(api.TTime) + ")", "k(pv := " + w.of(api.TInt) + ")", "r()", "q(a := " + w.of(api.TBool) + ")"}[w.Intn(5)]
	case 3:
		return "if " + w.of(api.TBool) + " then " + in(loop) + "elsif " + w.of(api.TBool) + " then " + in(loop) + "else " + in(loop) + "end_if"
	case 4:
		return "if " + w.of(api.TBool) + " then " + in(loop) + "end_if"
	case 5:
		return "while " + w.of(api.TBool) + " do " + in(true) + "end_while"
	case 6:
		return "repeat " + in(true) + "until " + w.of(api.TBool) + " end_repeat"
	case 7:
		return "for n := " + w.of(api.TInt) + " to " + w.of(api.TInt) + w.pick("~ ~by~-1 ~by~7") + " do " + in(true) + "end_for"
	}
	return "case " + w.of(api.TInt+w.Intn(2)) + " of 1, -2: " + in(loop) + "3: " + in(loop) + "else " + in(loop) + "end_case"
}

// 15.3: random programs are verified, and as deep as their deepest expression, and one, at most
func TestRandomPrograms(t *testing.T) {
	w := writer{rand.New(rand.NewSource(153))}
	deeps, gaps := map[int]int{}, 0
	for range 2000 {
		p := program(t, w.list(3, false)+w.list(2, false)+w.list(1, false))
		if _, _, e := gen.Gen(p); e == api.ErrLong {
			continue
		}
		deep, x := holdsProgram(t, p)
		deeps[deep]++
		if reached, _ := verify.Reached(x); strings.Contains(shown(reached), "0") {
			gaps++
		}
		if t.Failed() {
			return
		}
	}
	if len(deeps) < 6 || gaps < 300 {
		t.Error(deeps, gaps)
	}
}

// 15.1: images of programs of which one instruction, or two, are others
func TestChangedPrograms(t *testing.T) {
	w := writer{rand.New(rand.NewSource(154))}
	told := map[api.Errno]int{}
	for range 3000 {
		x, at, e := gen.Compile(heads + w.list(2, false) + w.list(2, false) + " end_program")
		if e == api.ErrLong || len(x.Code) > 400 {
			continue
		}
		if e != api.OK {
			t.Fatal(at, e)
		}
		c := coder{Rand: w.Rand, x: x}
		for range 3 {
			at := w.Intn(len(x.Code))
			before := x.Code[at]
			x.Code[at] = c.any(len(x.Code))
			told[holds(t, x).e]++
			if w.Intn(3) > 0 {
				x.Code[at] = before
			}
		}
		if t.Failed() {
			return
		}
	}
	if told[api.OK] < 300 || told[api.ErrStack] < 1000 || told[api.ErrJump] < 30 || told[api.ErrCode] > 0 {
		t.Error(fmt.Sprint(told))
	}
}

package vm_test

import (
	"fmt"
	"math"
	"math/rand"
	"slices"
	"strings"
	"testing"

	"capstan/api"
	"capstan/code"
	"capstan/gen"
	"capstan/verify"
	"capstan/vm"
)

// coder makes random code that is verified: it tries instructions that may be, one behind the other, until one fits what lies there.
type coder struct {
	*rand.Rand
	types string
	code  []api.Instr
	ahead map[int]string // of each place that is reached: the stack that lies there
}

// any answers an instruction that may be, in code of so many.
func (c *coder) any(long int) api.Instr {
	for {
		i := api.Instr{Op: 1 + c.Intn(12), A: c.Intn(17), B: c.Intn(5)}
		cell := c.Intn(len(c.types))
		switch i.Op {
		case api.IPush:
			i.A, i.B = 1+c.Intn(4), 0
			if i.N = int64(c.Intn(5)) - 1; c.Intn(4) == 0 {
				i.N = edgesOf(i.A)[c.Intn(len(edgesOf(i.A)))]
			}
		case api.ILoad, api.IStore:
			i.A, i.B = cell, 0
		case api.ILoadX, api.IStoreX:
			i.A = cell
		case api.ITwo:
			if c.Intn(3) == 0 {
				i.A = api.NDiv + c.Intn(2)
			}
		case api.ICall:
			i.B = cell
		case api.IJump, api.IFalse:
			i.A, i.B = c.Intn(long), 0
			return i
		case api.IEnd:
			i.A, i.B = 0, 0
		}
		if _, e := code.Check(imageOf(c.types, []api.Instr{i})); e == api.OK {
			return i
		}
	}
}

// after answers the stack behind an instruction, or false, if it finds too little there, another type, or no room.
func (c *coder) after(i api.Instr, stack string) (string, bool) {
	cell := func() string { return c.types[i.A : i.A+1] }
	letter := func(t int) string { return letters[t-1 : t] }
	takes, leaves := "", ""
	switch i.Op {
	case api.IPush:
		leaves = letter(i.A)
	case api.ILoad:
		leaves = cell()
	case api.IStore:
		takes = cell()
	case api.ILoadX:
		takes, leaves = "*", cell()
	case api.IStoreX:
		takes = "*" + cell()
	case api.ITwo:
		takes, leaves = letter(i.B)+letter(i.B), letter(i.B)
		if i.A >= api.NEq {
			leaves = "B"
		}
	case api.IOne:
		takes, leaves = letter(i.B), letter(i.B)
	case api.ITo:
		takes, leaves = letter(i.A), letter(i.B)
	case api.IFalse:
		takes = "B"
	}
	below := len(stack) - len(takes)
	if below < 0 || below+len(leaves) > 8 {
		return "", false
	}
	for n, may := range takes {
		lies := stack[below+n]
		if may == '*' && lies != 'I' && lies != 'D' || may != '*' && rune(lies) != may {
			return "", false
		}
	}
	return stack[:below] + leaves, true
}

// fits answers whether the instruction can stand at the place; a jump in it is set to a place that has its stack, or none as yet.
func (c *coder) fits(i *api.Instr, at, long int) bool {
	stack, reached := c.ahead[at]
	if !reached {
		return true
	}
	left, right := c.after(*i, stack)
	if !right || (i.Op == api.IEnd || i.Op == api.IJump) && c.Intn(6) > 0 {
		return false
	}
	var next []int
	if i.Op != api.IEnd && i.Op != api.IJump {
		next = append(next, at+1)
	}
	if i.Op == api.IFalse || i.Op == api.IJump {
		next = append(next, i.A)
	}
	for _, to := range next {
		if before, is := c.ahead[to]; to >= long || is && before != left {
			return false
		}
	}
	for _, to := range next {
		c.ahead[to] = left
	}
	return true
}

// image answers an image of so much code, at most, that is verified; false, if it found none.
func (c *coder) image(long int) (api.Image, bool) {
	c.code, c.ahead = nil, map[int]string{0: ""}
	for at := range long {
		tries := 0
		for {
			i := c.any(long)
			if tries++; tries > 500 {
				i = api.Instr{Op: api.IEnd}
			}
			if tries > 1000 {
				return api.Image{}, false
			}
			if c.fits(&i, at, long) {
				c.code = append(c.code, i)
				break
			}
		}
	}
	x := imageOf(c.types, c.code)
	_, e := verify.Check(x)
	return x, e == api.OK
}

// cells answers values that fit these types.
func (c *coder) cells(types []int) []int64 {
	l := make([]int64, len(types))
	for n, y := range types {
		if l[n] = int64(c.Intn(5)) & spans[y][1]; c.Intn(3) == 0 {
			l[n] = edgesOf(y)[c.Intn(len(edgesOf(y)))]
		}
	}
	return l
}

// 16.2, 16.3, 16.4, P1: random code that is verified, with random cells, times and budgets
func TestRandomImages(t *testing.T) {
	c := &coder{Rand: rand.New(rand.NewSource(163)), types: laid}
	traps, ops := map[int]int{}, map[int]int{}
	found, long := 0, 0
	for n := range 12000 {
		x, is := c.image(2 + n%50)
		if !is {
			continue
		}
		found++
		m := machine(t, x)
		for range 4 {
			s := holds(t, m, x, c.cells(x.Types), []int64{0, 5, 2147483647, int64(c.Int31())}[c.Intn(4)], c.Intn(200))
			traps[s.Trap]++
			for _, at := range s.places {
				ops[x.Code[at].Op]++
			}
			long = max(long, s.Used)
			for k, y := range x.Types {
				if !fits(y, s.Cells[k]) {
					t.Errorf("%s: cell %d is %d", brief(x), k, s.Cells[k])
				}
			}
		}
		if n%20 == 0 {
			further(t, m, c.cells(x.Types), int64(c.Intn(20)), c.Intn(120))
		}
		if t.Failed() {
			return
		}
	}
	if found < 6000 || traps[api.TDone] < 5000 || traps[api.TBudget] < 2000 || traps[api.TZero] < 50 || traps[api.TIndex] < 1000 || long < 199 {
		t.Error(found, traps, long)
	}
	for op := api.IPush; op <= api.IEnd; op++ {
		if ops[op] < 1500 {
			t.Errorf("op %d %d times", op, ops[op])
		}
	}
}

// 16.1, P1: code of anything: New refuses what Check does, and takes what it takes
func TestAnyImages(t *testing.T) {
	r := rand.New(rand.NewSource(164))
	edges := []int{math.MinInt, -1 << 31, -1, 5, 13, 17, 32, 33, 64, 255, 256, 4096, 1 << 32, math.MaxInt}
	some := func(most int) int {
		if r.Intn(40) == 0 {
			return edges[r.Intn(len(edges))]
		}
		return r.Intn(most)
	}
	told := map[api.Errno]int{}
	for range 40000 {
		c := &coder{Rand: r, types: "BIDTIIBTBTTB"[:1+r.Intn(12)]}
		x := imageOf(c.types, nil)
		long := r.Intn(6)
		for range long {
			i := c.any(long)
			if r.Intn(12) == 0 {
				i = api.Instr{Op: some(14), A: some(8), B: some(5), N: int64(some(3))}
			}
			x.Code = append(x.Code, i)
		}
		at, e := verify.Check(x)
		told[e]++
		if e != api.OK {
			refused(t, x, at, e)
			continue
		}
		m := machine(t, x)
		holds(t, m, x, c.cells(x.Types), int64(r.Intn(20)), r.Intn(60))
		if t.Failed() {
			return
		}
	}
	if told[api.OK] < 1000 || told[api.ErrStack] < 5000 || told[api.ErrJump] < 200 || told[api.ErrCode] < 5000 {
		t.Error(told)
	}
}

// 16.2, 16.3, P1, R5: cells, times and budgets of anything
func TestAnyScans(t *testing.T) {
	r := rand.New(rand.NewSource(165))
	c := &coder{Rand: r, types: laid}
	x := image("load 1; loadx 6 3; store 7; call 1 13; load 0; false 0; end")
	m := machine(t, x)
	told := map[api.Errno]int{}
	odd := []int64{math.MinInt64, -1 << 32, -2147483649, -2147483648, -32769, -1, 0, 1, 2, 3, 32768, 65536, 65537, 2147483647, 2147483648, 1 << 32, math.MaxInt64}
	for range 20000 {
		cells := c.cells(x.Types)
		want := api.OK
		if r.Intn(4) == 0 {
			at := r.Intn(len(cells))
			if cells[at] = odd[r.Intn(len(odd))]; !fits(x.Types[at], cells[at]) {
				want = api.ErrRange
			}
		}
		now, budget := int64(r.Intn(50)), r.Intn(50)
		if r.Intn(4) == 0 {
			now = odd[r.Intn(len(odd))]
		}
		if r.Intn(4) == 0 {
			budget = int(odd[r.Intn(len(odd))])
		}
		if now < 0 || now > 2147483647 || budget < 0 || budget > api.MaxTicks {
			want = api.ErrRange
		}
		if r.Intn(8) == 0 {
			cells = cells[:r.Intn(len(cells))]
			want = api.ErrShape
		}
		told[want]++
		refuses(t, m, cells, now, budget, want)
		if want == api.OK {
			holds(t, m, x, cells, now, budget)
		}
		if t.Failed() {
			return
		}
	}
	if told[api.OK] < 5000 || told[api.ErrRange] < 3000 || told[api.ErrShape] < 1000 {
		t.Error(told)
	}
}

// writer writes random statements that are right.
type writer struct{ *rand.Rand }

func (w writer) pick(words string) string {
	l := strings.Fields(words)
	return strings.ReplaceAll(l[w.Intn(len(l))], "~", " ")
}

// value answers an expression that fits the type, with others within up to so deep.
func (w writer) value(y, depth int) string {
	if depth == 0 || w.Intn(3) == 0 {
		return w.pick([]string{"b i o t.q s.q1 xb[1] true false 1<2", "n on in1 x[0] k.cv 5 -7 32767 q.last n~mod~3", "d xd[0] q.cv 5 -70000 200*200 d/3", "e xt[5] t.et t#5s"}[y-1])
	}
	in := func(y int) string { return "(" + w.value(y, depth-1) + ")" }
	if y == api.TBool {
		of := 1 + w.Intn(4)
		signs := "= <>"
		if of != api.TBool {
			signs += " < <= > >="
		} else if w.Intn(2) == 0 {
			return "not " + in(y)
		}
		return in(of) + w.pick(signs) + in(of)
	}
	switch w.Intn(5) {
	case 0:
		return w.pick([]string{"", "x", "xd", "xt"}[y-1]) + "[" + w.index(depth-1) + "]"
	case 1:
		return []string{"", "to_int", "to_dint", "to_time"}[y-1] + in(api.TInt+w.Intn(3))
	case 2:
		return "- " + in(y)
	}
	if y == api.TTime {
		return in(y) + w.pick("+ -") + in(y)
	}
	return in(y) + w.pick("+ - * / ~mod~ ~and~ ~or~ ~xor~") + in(y)
}

// index answers one that is most often there.
func (w writer) index(depth int) string {
	s := w.value(api.TInt+w.Intn(2), depth)
	if w.Intn(4) == 0 {
		return s
	}
	return "(" + s + ") and 3"
}

func (w writer) of(y int) string { return w.value(y, w.Intn(4)) }

func (w writer) list(depth int, loop bool) string {
	s := ""
	for range 1 + w.Intn(4) {
		s += w.statement(depth, loop) + "; "
	}
	return s
}

func (w writer) statement(depth int, loop bool) string {
	kind := w.Intn(9)
	if depth == 0 {
		kind = w.Intn(3)
	}
	in := func(loop bool) string { return w.list(depth-1, loop) }
	switch kind {
	case 0:
		y := 1 + w.Intn(4)
		return []string{"b", "on", "d", "e"}[y-1] + " := " + w.of(y)
	case 1:
		y := 1 + w.Intn(4)
		if y == api.TBool {
			return "xb[(" + w.of(api.TInt) + ") and 1] := " + w.of(y)
		}
		return []string{"xb", "x", "xd", "xt"}[y-1] + "[" + w.index(w.Intn(3)) + "] := " + w.of(y)
	case 2:
		if loop && w.Intn(3) == 0 {
			return "exit"
		}
		if w.Intn(12) == 0 {
			return "return"
		}
		return []string{"t(in := " + w.of(api.TBool) + ", pt := " + w.of(api.TTime) + ")", "k(cu := " + w.of(api.TBool) + ", pv := " + w.of(api.TInt) + ")", "r(clk := " + w.of(api.TBool) + ")", "s(s1 := b, r := i)", "q(a := " + w.of(api.TBool) + ", b := " + w.of(api.TBool) + ")"}[w.Intn(5)]
	case 3:
		return "if " + w.of(api.TBool) + " then " + in(loop) + "elsif " + w.of(api.TBool) + " then " + in(loop) + "else " + in(loop) + "end_if"
	case 4:
		return "if " + w.of(api.TBool) + " then " + in(loop) + "end_if"
	case 5:
		return "while " + w.of(api.TBool) + " do " + in(true) + "end_while"
	case 6:
		return "repeat " + in(true) + "until " + w.of(api.TBool) + " end_repeat"
	case 7:
		return "for n := " + w.of(api.TInt) + " to " + w.of(api.TInt) + w.pick("~ ~by~-1 ~by~7") + " do " + in(true) + "end_for"
	}
	return "case " + w.of(api.TInt+w.Intn(2)) + " of 1, -2: " + in(loop) + "3, 0: " + in(loop) + "else " + in(loop) + "end_case"
}

// 16.2, 16.4: random programs that chapter 14 compiles, scan behind scan, against what their statements say
func TestRandomPrograms(t *testing.T) {
	w := writer{rand.New(rand.NewSource(166))}
	c := &coder{Rand: w.Rand, types: laid}
	traps := map[int]int{}
	changed := 0
	for n := range 1000 {
		text := heads + w.list(2, false) + w.list(1, false) + w.list(1, false) + " end_program"
		if _, _, e := gen.Compile(text); e == api.ErrLong {
			continue
		}
		p, x, m := compiled(t, text)
		cells, now := m.First(), int64(0)
		if n%2 == 0 {
			cells = c.cells(x.Types)
		}
		for range 6 {
			budget := []int{w.Intn(60), w.Intn(600), 2000}[w.Intn(3)]
			s := play(t, m, p, x, cells, now, budget)
			traps[s.Trap]++
			if !slices.Equal(s.Cells, cells) {
				changed++
			}
			cells, now = s.Cells, now+int64(w.Intn(5))*int64(w.Intn(2000))
			cells[0], cells[1] = int64(w.Intn(2)), int64(w.Intn(9)-4)
		}
		if t.Failed() {
			t.Log(text)
			return
		}
	}
	if traps[api.TDone] < 700 || traps[api.TBudget] < 2000 || traps[api.TZero] < 700 || traps[api.TIndex] < 900 || changed < 2000 {
		t.Error(fmt.Sprint(traps), changed)
	}
}

// 16.4: what scans of one machine do is the same as what those of another one of the same image do, in whatever order
func TestMachinesOfOneImage(t *testing.T) {
	w := writer{rand.New(rand.NewSource(167))}
	c := &coder{Rand: w.Rand}
	for range 100 {
		text := heads + w.list(2, false) + w.list(1, false) + " end_program"
		if _, _, e := gen.Compile(text); e == api.ErrLong {
			continue
		}
		_, x, m := compiled(t, text)
		var other *vm.Machine
		for k := range 10 {
			if k%3 == 0 {
				other = machine(t, m.Image())
			}
			cells, now, budget := c.cells(x.Types), int64(w.Intn(100)), w.Intn(300)
			want := holds(t, m, x, cells, now, budget)
			tells(t, other, cells, now, budget, want)
		}
	}
}

package mean_test

import (
	"cmp"
	"fmt"
	"math"
	"math/rand"
	"slices"
	"strings"
	"testing"

	"capstan/api"
	"capstan/decl"
	"capstan/fold"
	"capstan/gen"
	"capstan/mean"
	"capstan/typed"
)

// maker makes random statements that mostly are right; wrong is in how many of a hundred places something else is taken.
type maker struct {
	*rand.Rand
	wrong int
}

// pick answers one of the words of right, with blanks for ~, or at times one of the others.
func (m maker) pick(right string, others ...string) string {
	words := strings.Fields(right)
	if m.Intn(100) < m.wrong {
		words = append(words, others...)
	}
	return strings.ReplaceAll(words[m.Intn(len(words))], "~", " ")
}

// value answers an expression that fits y, with others within up to so deep.
func (m maker) value(y, depth int) string {
	if depth > 0 && m.Intn(2) == 0 {
		return m.deeper(y, depth-1)
	}
	switch y {
	case api.TBool:
		return m.pick("b i o t.q s.q1 xb[1] true false bool#1 1<2 n<2 d>id", "n", "1", "nobody", "x", "t.cv", "b<b", "n<40000")
	case api.TInt:
		return m.pick("n on in1 x[0] x[3] c.cv 5 1 0 2 -32767 32767 16#ffff8000 int#-7 q.last n~mod~4", "d", "40000", "n+40000", "nobody", "b", "x[b]", "t", "2147483648")
	case api.TDint:
		return m.pick("d id xd[0] q.cv 5 1 70000 -70000 dint#-7 0 200*200", "n", "2147483648", "nobody", "e", "q", "d+n")
	}
	return m.pick("e it xt[5] t.et t.pt t#5s t#0ms", "5", "n", "nobody", "e*e", "xt", "e+1")
}

func (m maker) deeper(y, depth int) string {
	two := func(of int, ops string) string {
		return "(" + m.value(of, depth) + " " + m.pick(ops) + " " + m.value(of, depth) + ")"
	}
	kind := m.Intn(4)
	switch {
	case y == api.TBool && kind == 0:
		return two(api.TBool+m.Intn(4), "= <>")
	case y == api.TBool && kind == 1:
		return two(api.TInt+m.Intn(3), "< <= > >=")
	case y == api.TBool && kind == 2:
		return "not (" + m.value(y, depth) + ")"
	case y == api.TBool:
		return two(y, "and or xor &")
	case kind == 0:
		return []string{"", "x", "xd", "xt"}[y-1] + "[" + m.index(y, depth) + "]"
	case kind == 1:
		return []string{"", "to_int(", "to_dint(", "to_time("}[y-1] + m.value(api.TInt+m.Intn(3), depth) + ")"
	case kind == 2:
		return "- (" + m.value(y, depth) + ")"
	case y == api.TTime:
		return two(y, "+ -")
	}
	return two(y, "+ - * / / / mod mod and or xor")
}

// index answers one of an array of the type y that is most often there.
func (m maker) index(y, depth int) string {
	s := m.value(api.TInt+m.Intn(2), depth)
	if m.Intn(4) == 0 {
		return s
	}
	return fmt.Sprintf("(%s) and %d", s, []int{1, 3, 0, 31}[y-1])
}

// any answers an expression that fits y, with some within or none.
func (m maker) any(y int) string {
	return strings.ReplaceAll(m.value(y, m.Intn(4)), "d>id", "d > id")
}

func (m maker) set() string {
	switch m.Intn(6) {
	case 0:
		return m.pick("b o xb[0] xb[n~and~1]", "i", "xb", "n", "nobody") + " := " + m.any(api.TBool)
	case 1:
		return m.pick("n on x[0] x[d] x[n~and~3] x[n+1]", "in1", "x", "x[b]", "n[0]", "t") + " := " + m.any(api.TInt)
	case 2:
		return m.pick("d xd[0] xd[n]", "id", "n", "xd[2147483648]") + " := " + m.any(api.TDint)
	case 3:
		return m.pick("e xt[n~and~31]", "it", "xt[e]", "nobody[0]") + " := " + m.any(api.TTime)
	case 4:
		return "x[" + m.index(api.TInt, 2) + "] := " + m.any(api.TInt)
	}
	return m.call()
}

func (m maker) call() string {
	args := func(all ...string) string {
		m.Shuffle(len(all), func(i, k int) { all[i], all[k] = all[k], all[i] })
		all = all[:m.Intn(len(all)+1)]
		if m.Intn(100) < m.wrong && len(all) > 0 {
			all = append(all, m.pick("q~:=~b in~:=~b nobody~:=~b", all[0]))
		}
		return "(" + strings.Join(all, ", ") + ")"
	}
	b := func(name string) string { return name + " := " + m.any(api.TBool) }
	switch m.Intn(6) {
	case 0:
		return m.pick("t f g", "n", "nobody", "c") + args(b("in"), "pt := "+m.any(api.TTime))
	case 1:
		return m.pick("c", "k", "x") + args(b("cu"), b("r"), "pv := "+m.any(api.TInt))
	case 2:
		return m.pick("k", "c") + args(b("cd"), b("ld"), "pv := "+m.any(api.TInt))
	case 3:
		return m.pick("r w", "s", "b") + args(b("clk"))
	case 4:
		return "s" + args(b("s1"), b("r")) + "; z" + args(b("s"), b("r1"))
	}
	return m.pick("q", "z") + args(b("a"), b("b"), b("r"))
}

func (m maker) list(depth int, inLoop bool) string {
	var l []string
	for range m.Intn(4) {
		l = append(l, m.statement(depth, inLoop))
	}
	return strings.Join(l, " ")
}

func (m maker) statement(depth int, inLoop bool) string {
	kind := m.Intn(10)
	if depth == 0 {
		kind = m.Intn(4)
	}
	switch kind {
	case 3:
		if inLoop || m.Intn(100) < m.wrong {
			return "exit;"
		}
		if m.Intn(3) == 0 {
			return "return;"
		}
	case 4, 5:
		s := "if " + m.any(api.TBool) + " then " + m.list(depth-1, inLoop)
		for range m.Intn(3) {
			s += " elsif " + m.any(api.TBool) + " then " + m.list(depth-1, inLoop)
		}
		if m.Intn(2) == 0 {
			s += " else " + m.list(depth-1, inLoop)
		}
		return s + " end_if;"
	case 6:
		return "while " + m.any(api.TBool) + " do " + m.list(depth-1, true) + " end_while;"
	case 7:
		return "repeat " + m.list(depth-1, true) + " until " + m.any(api.TBool) + " end_repeat;"
	case 8:
		v, y := m.pick("n on", "b", "in1", "x", "e"), api.TInt
		if m.Intn(2) == 0 {
			v, y = m.pick("d", "n", "nobody"), api.TDint
		}
		return "for " + v + " := " + m.any(y) + " to " + m.any(y) + " by " + m.pick("1 -1 5 -32768", "32768", "-70000") + " do " + m.list(depth-1, true) + " end_for;"
	case 9:
		return m.choose(depth, inLoop)
	}
	return m.set() + ";"
}

func (m maker) choose(depth int, inLoop bool) string {
	s := "case " + m.any(api.TInt+m.Intn(2)) + " of "
	for i := range m.Intn(4) {
		s += fmt.Sprintf("%d, %s: %s ", i, m.pick(fmt.Sprint(-1-i, " ", 10+i, " ", 20+i), "0", "40000", "-1"), m.list(depth-1, inLoop))
	}
	if m.Intn(2) == 0 {
		s += " else " + m.list(depth-1, inLoop)
	}
	return s + " end_case;"
}

// cells answers values that fit, near 0 or at the edges of their types.
func (m maker) cells() []int64 {
	types, _, _ := typed.Cells(vars)
	l := make([]int64, len(types))
	for n, y := range types {
		switch m.Intn(3) {
		case 0:
			l[n] = int64(m.Intn(4)) & spans[y][1]
		case 1:
			l[n] = spans[y][m.Intn(2)]
		}
	}
	return l
}

// 17.1, 17.3: random programs, scan behind scan, with any budget, against the reference and on the machine
func TestRandomPrograms(t *testing.T) {
	m := maker{Rand: rand.New(rand.NewSource(173))}
	traps, kinds := map[int]int{}, map[int]int{}
	changed, alone := 0, 0
	for n := range 400 {
		body := m.list(3, false) + " " + m.list(2, false) + " " + m.list(1, false)
		p, f := decl.Parse(heads + body + " end_program")
		if f != (api.Fault{}) {
			if f.Code != api.ErrLong {
				t.Fatal(body, f)
			}
			continue
		}
		on := machineOf(t, p)
		if on == nil {
			alone++
		}
		count(p.Body, kinds)
		cells, now := cellsOf(""), int64(0)
		if n%2 == 0 {
			cells = m.cells()
		}
		for k := range 5 {
			if budget := m.Intn(60); k == 0 {
				follows(t, p, cells, now, budget)
			}
			agrees(t, p, on, cells, now, m.Intn(200))
			s := agrees(t, p, on, cells, now, []int{m.Intn(60), m.Intn(600), 2000}[m.Intn(3)])
			traps[s.Trap]++
			if !slices.Equal(s.Cells, cells) {
				changed++
			}
			cells, now = s.Cells, now+int64(m.Intn(5))*int64(m.Intn(2000))
			cells[0], cells[1] = int64(m.Intn(2)), int64(m.Intn(9)-4)
		}
		if t.Failed() {
			t.Log(body)
			return
		}
	}
	if traps[api.TDone] < 500 || traps[api.TBudget] < 500 || traps[api.TZero] < 100 || traps[api.TIndex] < 100 || changed < 400 {
		t.Error(traps, changed, alone)
	}
	for kind := api.SSet; kind <= api.SReturn; kind++ {
		if kinds[kind] < 100 {
			t.Errorf("kind %d: %d", kind, kinds[kind])
		}
	}
}

// count counts statements by their kinds.
func count(l []api.Stmt, kinds map[int]int) {
	for _, s := range l {
		kinds[s.Kind]++
		count(s.Body, kinds)
		count(s.Else, kinds)
		for _, a := range s.Arms {
			count(a.Body, kinds)
		}
	}
}

// W2, 17.1: random programs that mostly are wrong: what chapter 9's Check refuses, and chapter 14's Compile
func TestRandomWrongPrograms(t *testing.T) {
	m := maker{Rand: rand.New(rand.NewSource(174)), wrong: 6}
	told := map[api.Errno]int{}
	for range 1500 {
		body := m.list(2, false) + " " + m.list(1, false)
		p, f := decl.Parse(heads + body + " end_program")
		if f != (api.Fault{}) {
			continue
		}
		at, e := typed.Check(p)
		told[e]++
		if _, gotAt, got := gen.Gen(p); got != e && got != api.ErrLong || gotAt != at {
			t.Fatal(body, gotAt, got)
		}
		if e != api.OK {
			refuses(t, p, cellsOf(""), int64(m.Intn(3)-1), m.Intn(50)-1, at, e)
			refuses(t, p, nil, 0, 10, at, e)
		} else {
			takes(t, p, cellsOf(""), 0, m.Intn(50))
			refuses(t, p, nil, 0, 10, 0, api.ErrShape)
		}
	}
	for _, e := range []api.Errno{api.OK, api.ErrName, api.ErrKind, api.ErrType, api.ErrRange} {
		if told[e] < 40 {
			t.Errorf("%d told %d times", e, told[e])
		}
	}
}

// 17.1, 17.2: what a random expression is worth: by Worth, by the reference, and as a variable is set to it, for as many ticks as it has folded parts
func TestRandomWorth(t *testing.T) {
	m := maker{Rand: rand.New(rand.NewSource(175)), wrong: 2}
	told, traps := map[api.Errno]int{}, map[int]int{}
	types, _, _ := typed.Cells(vars)
	for range 6000 {
		y := 1 + m.Intn(4)
		x := parts(m.value(y, 1+m.Intn(4)))
		if m.Intn(20) == 0 {
			y = m.Intn(6)
		}
		cells := m.cells()
		whole, e := fold.Fold(vars, x, y)
		told[e]++
		if e != api.OK {
			worthIs(t, vars, cells, x, y, 0, 0, e)
			continue
		}
		r := &ref{vars: vars, types: types, cells: slices.Clone(cells), folded: map[string][]api.Part{}}
		used := 0
		for next := r.parts(whole, nil); next != nil; used++ {
			next = next()
		}
		traps[r.trap]++
		n := int64(0)
		if r.trap == api.TDone {
			n = r.values[0].n
		}
		worthIs(t, vars, cells, x, y, n, r.trap, api.OK)
		name := []string{"B", "N", "D", "E"}[y-1]
		want := mean.End{Cells: slices.Clone(cells), Used: used, Trap: r.trap}
		if r.trap == api.TDone {
			put(want.Cells, fmt.Sprintf("%s=%d", name, n))
			want.Used = len(whole) + 2
		}
		ends(t, api.Program{Name: "P", Vars: vars, Body: []api.Stmt{{Kind: api.SSet, Name: name, X: x}}}, cells, 0, 1000, want)
		if t.Failed() {
			return
		}
	}
	if told[api.OK] < 3000 || told[api.ErrType] < 100 || told[api.ErrName] < 10 || traps[api.TDone] < 2000 || traps[api.TZero] < 50 || traps[api.TIndex] < 100 {
		t.Error(told, traps)
	}
}

// oddStmt1 answers a statement of anything.
func oddStmt1(r *rand.Rand, depth int) api.Stmt {
	texts := []string{"", "N", "T", "X", "NOBODY", "n", "IF", "B"}
	leaves := []api.Part{variable("N"), variable("B"), variable("NOBODY"), field("T", "Q"), number(5), number(1 << 33), of(api.TBool, 1), of(api.TInt, 40000), op(api.NAdd), {}}
	some := func() []api.Part {
		return slices.Repeat([]api.Part{leaves[r.Intn(len(leaves))]}, r.Intn(3))
	}
	s := api.Stmt{Kind: r.Intn(12) - 1, Name: texts[r.Intn(len(texts))], X: some()}
	if r.Intn(3) == 0 {
		s.Index, s.Y, s.By = some(), some(), []int64{0, 1, -1, 40000, math.MaxInt64}[r.Intn(5)]
	}
	if r.Intn(3) == 0 {
		s.Args = []api.Arg{{Name: texts[r.Intn(len(texts))], X: some()}, {Name: "IN", X: some()}}
	}
	for range r.Intn(3) {
		if depth == 0 {
			break
		}
		s.Body = append(s.Body, oddStmt1(r, depth-1))
		s.Arms = append(s.Arms, api.Arm{Labels: make([]int64, r.Intn(3)), Body: []api.Stmt{oddStmt1(r, depth-1)}})
		s.Else = append(s.Else, oddStmt1(r, depth-1))
	}
	return s
}

// P1, R1, R5: programs, cells, times and budgets of anything end
func TestAnyScans(t *testing.T) {
	r := rand.New(rand.NewSource(176))
	m := maker{Rand: r}
	edges := []int64{math.MinInt64, -1 << 32, -2147483649, -32769, -1, 0, 1, 5, 65536, 65537, 2147483647, 2147483648, 1 << 32, math.MaxInt64}
	told := map[api.Errno]int{}
	types, _, _ := typed.Cells(vars)
	for range 15000 {
		p := api.Program{Name: "P", Vars: vars}
		if r.Intn(20) == 0 {
			p.Name = []string{"", "n", "N", "IF"}[r.Intn(4)]
		}
		for range r.Intn(3) {
			p.Body = append(p.Body, oddStmt1(r, 1))
		}
		cells, now, budget := m.cells(), int64(r.Intn(9)), r.Intn(100)
		if r.Intn(4) == 0 {
			cells[r.Intn(len(cells))] = edges[r.Intn(len(edges))]
		}
		if r.Intn(4) == 0 {
			now = edges[r.Intn(len(edges))]
		}
		if r.Intn(4) == 0 {
			budget = int(edges[r.Intn(len(edges))])
		}
		if r.Intn(8) == 0 {
			cells = cells[:r.Intn(len(cells))]
		}
		at, e := typed.Check(p)
		late := api.OK // what is wrong in what the scan begins with
		for n := range cells {
			if !fits(types[n], cells[n]) {
				late = api.ErrRange
			}
		}
		if now < 0 || now > 2147483647 || budget < 0 || budget > 65536 {
			late = api.ErrRange
		}
		if len(cells) != len(types) {
			late = api.ErrShape
		}
		e = cmp.Or(e, late)
		if told[e]++; e != api.OK {
			refuses(t, p, cells, now, budget, at, e)
			continue
		}
		ends(t, p, cells, now, budget, played(p, cells, now, budget)[min(budget, len(played(p, cells, now, budget))-1)])
		if t.Failed() {
			return
		}
	}
	if told[api.OK] < 1500 || told[api.ErrDecl] < 3000 || told[api.ErrShape] < 300 || told[api.ErrRange] < 1000 || told[api.ErrName] < 20 {
		t.Error(told)
	}
}

// P1, R5: parts of anything end, and are refused as Fold does
func TestAnyParts(t *testing.T) {
	r := rand.New(rand.NewSource(177))
	some := []api.Part{variable("N"), variable("B"), variable("D"), variable("n"), variable("NOBODY"), field("T", "Q"), field("T", "N"), index("X"), index("N"), number(5), number(0), number(1<<31 + 1), of(api.TTime, 5), of(api.TInt, 3), of(5, 0), to(api.TDint), to(api.TBool), op(17), op(-1), op(math.MaxInt64), {}, {Kind: 9}}
	types := []int{math.MinInt, -1, 0, 1, 2, 3, 4, 5, 101, 1<<32 + 2, math.MaxInt}
	cells := cellsOf("n=2 d=3 x[3]=7")
	taken := 0
	for range 60000 {
		var x []api.Part
		for range r.Intn(9) {
			p := some[r.Intn(len(some))]
			if r.Intn(2) == 0 {
				p = op(r.Int63n(18))
			}
			x = append(x, p)
		}
		y := types[r.Intn(len(types))]
		_, want := fold.Fold(vars, x, y)
		n, trap, e := mean.Worth(vars, cells, x, y)
		if e != want || e != api.OK && (n != 0 || trap != 0) || trap != 0 && n != 0 || e == api.OK && !fits(y, n) {
			t.Fatal(x, y, n, trap, e, want)
		}
		if e == api.OK {
			taken++
		}
	}
	if taken < 80 {
		t.Error(taken)
	}
}

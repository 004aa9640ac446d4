package gen_test

import (
	"fmt"
	"math"
	"math/rand"
	"slices"
	"strings"
	"testing"

	"capstan/api"
	"capstan/code"
	"capstan/decl"
	"capstan/fold"
	"capstan/gen"
	"capstan/typed"
)

// maker makes random statements that mostly are right; wrong is in how many of a hundred places something else is taken.
type maker struct {
	*rand.Rand
	wrong int
}

// pick answers one of the words of right, with blanks for ~, or at times one of the others.
func (m maker) pick(right string, others ...string) string {
	words := strings.Fields(right)
	if m.Intn(100) < m.wrong {
		words = append(words, others...)
	}
	return strings.ReplaceAll(words[m.Intn(len(words))], "~", " ")
}

// value answers an expression that fits t, with others within up to so deep.
func (m maker) value(t, depth int) string {
	if depth > 0 && m.Intn(2) == 0 {
		return m.deeper(t, depth-1)
	}
	switch t {
	case api.TBool:
		return m.pick("b i o t.q s.q1 xb[1] true false bool#1 1<2", "n", "1", "nobody", "x", "t.cv", "b<b", "n<40000")
	case api.TInt:
		return m.pick("n on in1 x[0] x[70000] c.cv 5 0 -32767 32767 16#ffff8000 int#-7 q.last 7/0", "d", "40000", "n+40000", "nobody", "b", "x[b]", "t", "2147483648")
	case api.TDint:
		return m.pick("d id xd[0] q.cv 5 70000 -70000 dint#-7 0 200*200", "n", "2147483648", "nobody", "e", "q", "d+n")
	}
	return m.pick("e it xt[5] t.et t.pt t#5s t#0ms", "5", "n", "nobody", "e*e", "xt", "e+1")
}

func (m maker) deeper(t, depth int) string {
	two := func(of int, ops string) string {
		return "(" + m.value(of, depth) + " " + m.pick(ops) + " " + m.value(of, depth) + ")"
	}
	kind := m.Intn(4)
	switch {
	case t == api.TBool && kind == 0:
		return two(api.TBool+m.Intn(4), "= <>")
	case t == api.TBool && kind == 1:
		return two(api.TInt+m.Intn(3), "< <= > >=")
	case t == api.TBool && kind == 2:
		return "not (" + m.value(t, depth) + ")"
	case t == api.TBool:
		return two(t, "and or xor &")
	case kind == 0 && t == api.TInt:
		return "x[" + m.value(api.TInt+m.Intn(2), depth) + "]"
	case kind == 1:
		return map[int]string{api.TInt: "to_int(", api.TDint: "to_dint(", api.TTime: "to_time("}[t] + m.value(api.TInt+m.Intn(3), depth) + ")"
	case kind == 2:
		return "- (" + m.value(t, depth) + ")"
	case t == api.TTime:
		return two(t, "+ -")
	}
	return two(t, "+ - * / mod and or xor")
}

// any answers an expression that fits t, with some within or none.
func (m maker) any(t int) string { return m.value(t, m.Intn(4)) }

func (m maker) set() string {
	switch m.Intn(5) {
	case 0:
		return m.pick("b o xb[0] xb[n]", "i", "xb", "n", "nobody") + " := " + m.any(api.TBool)
	case 1:
		return m.pick("n on x[0] x[d] x[40000] x[n+1]", "in1", "x", "x[b]", "n[0]", "t") + " := " + m.any(api.TInt)
	case 2:
		return m.pick("d xd[0] xd[5]", "id", "n", "xd[2147483648]") + " := " + m.any(api.TDint)
	case 3:
		return m.pick("e xt[n]", "it", "xt[e]", "nobody[0]") + " := " + m.any(api.TTime)
	}
	return m.call()
}

func (m maker) call() string {
	args := func(all ...string) string {
		m.Shuffle(len(all), func(i, k int) { all[i], all[k] = all[k], all[i] })
		all = all[:m.Intn(len(all)+1)]
		if m.Intn(100) < m.wrong && len(all) > 0 {
			all = append(all, m.pick("q~:=~b in~:=~b nobody~:=~b", all[0]))
		}
		return "(" + strings.Join(all, ", ") + ")"
	}
	b := func(name string) string { return name + " := " + m.any(api.TBool) }
	switch m.Intn(6) {
	case 0:
		return m.pick("t f g", "n", "nobody", "c") + args(b("in"), "pt := "+m.any(api.TTime))
	case 1:
		return m.pick("c", "k", "x") + args(b("cu"), b("r"), "pv := "+m.any(api.TInt))
	case 2:
		return m.pick("k", "c") + args(b("cd"), b("ld"), "pv := "+m.any(api.TInt))
	case 3:
		return m.pick("r w", "s", "b") + args(b("clk"))
	case 4:
		return "s" + args(b("s1"), b("r")) + "; z" + args(b("s"), b("r1"))
	}
	return m.pick("q", "z") + args(b("a"), b("b"), b("r"))
}

func (m maker) list(depth int, inLoop bool) string {
	var l []string
	for range m.Intn(4) {
		l = append(l, m.statement(depth, inLoop))
	}
	return strings.Join(l, " ")
}

func (m maker) statement(depth int, inLoop bool) string {
	kind := m.Intn(10)
	if depth == 0 {
		kind = m.Intn(4)
	}
	switch kind {
	case 3:
		if inLoop || m.Intn(100) < m.wrong {
			return "exit;"
		}
		return "return;"
	case 4, 5:
		s := "if " + m.any(api.TBool) + " then " + m.list(depth-1, inLoop)
		for range m.Intn(3) {
			s += " elsif " + m.any(api.TBool) + " then " + m.list(depth-1, inLoop)
		}
		if m.Intn(2) == 0 {
			s += " else " + m.list(depth-1, inLoop)
		}
		return s + " end_if;"
	case 6:
		return "while " + m.any(api.TBool) + " do " + m.list(depth-1, true) + " end_while;"
	case 7:
		return "repeat " + m.list(depth-1, true) + " until " + m.any(api.TBool) + " end_repeat;"
	case 8:
		v, t := m.pick("n on", "b", "in1", "x", "e"), api.TInt
		if m.Intn(2) == 0 {
			v, t = m.pick("d", "n", "nobody"), api.TDint
		}
		return "for " + v + " := " + m.any(t) + " to " + m.any(t) + " by " + m.pick("1 -1 5 -32768", "32768", "-70000") + " do " + m.list(depth-1, true) + " end_for;"
	case 9:
		return m.choose(depth, inLoop)
	}
	return m.set() + ";"
}

func (m maker) choose(depth int, inLoop bool) string {
	s := "case " + m.any(api.TInt+m.Intn(2)) + " of "
	for i := range m.Intn(4) {
		s += fmt.Sprintf("%d, %s: %s ", i, m.pick(fmt.Sprint(-1-i, " ", 10+i, " ", 20+i), "0", "40000", "-1"), m.list(depth-1, inLoop))
	}
	if m.Intn(2) == 0 {
		s += " else " + m.list(depth-1, inLoop)
	}
	return s + " end_case;"
}

// genHolds fails the test unless Gen answers of p what Check refuses, or an image that has the reference's code and may be, or that the code is too long. It answers what is told.
func genHolds(t *testing.T, p api.Program, what string) api.Errno {
	t.Helper()
	if at, e := typed.Check(p); e != api.OK {
		refuses(t, p, at, e, what)
		return e
	}
	want := refCode(p)
	if len(want) > api.MaxCode {
		refuses(t, p, 0, api.ErrLong, what)
		return api.ErrLong
	}
	x := makes(t, p, want, what)
	y := api.Image{Name: p.Name, Code: x.Code}
	y.Types, y.First, _ = typed.Cells(p.Vars)
	for _, v := range p.Vars {
		at, _, _ := typed.Place(p.Vars, v.Name)
		switch v.Dir {
		case api.DInput:
			y.In = append(y.In, at)
		case api.DOutput:
			y.Out = append(y.Out, at)
		}
	}
	if !same(x, y) {
		t.Errorf("%.300s: %+v, want %+v", what, x, y)
	}
	return api.OK
}

// 14.1, 14.2, 14.3: random programs
func TestRandomPrograms(t *testing.T) {
	r := rand.New(rand.NewSource(14))
	told := map[api.Errno]int{}
	ops := map[int]int{}
	for i := range 2500 {
		if t.Failed() {
			return // one program tells enough
		}
		m := maker{r, i % 4 * i % 5}
		body := m.list(3, false) + " " + m.list(2, false) + " " + m.list(1, false)
		p, f := decl.Parse(heads + body + " end_program")
		if f != (api.Fault{}) {
			if f.Code != api.ErrLong {
				t.Fatal(body, f)
			}
			continue
		}
		e := genHolds(t, p, body)
		told[e]++
		if e == api.OK {
			x, _, _ := gen.Gen(p)
			for _, i := range x.Code {
				ops[i.Op]++
			}
			eachExpression(t, p.Vars, p.Body)
		}
		if i%4 == 0 {
			compileIs(t, heads+body+" end_program")
		}
	}
	for _, e := range []api.Errno{api.OK, api.ErrName, api.ErrKind, api.ErrType, api.ErrRange} {
		if told[e] < 50 {
			t.Errorf("%d told %d times", e, told[e])
		}
	}
	for op := api.IPush; op <= api.IEnd; op++ {
		if ops[op] < 500 {
			t.Errorf("op %d %d times", op, ops[op])
		}
	}
}

// eachExpression fails the test unless the code of each expression of the statements is as long as its folded parts, and right.
func eachExpression(t *testing.T, l []api.Var, list []api.Stmt) {
	t.Helper()
	for _, s := range list {
		xs := [][]api.Part{s.Index, s.X, s.Y}
		for _, a := range s.Args {
			xs = append(xs, a.X)
		}
		for _, x := range xs {
			for y := api.TBool; y <= api.TTime && len(x) > 0; y++ {
				folded, want := fold.Fold(l, x, y)
				code, e := gen.Expr(l, x, y)
				if e != want || len(code) != len(folded) {
					t.Errorf("%v for %d: %d, %d, want %d, %d", x, y, len(code), e, len(folded), want)
				}
				if e == api.OK && differ(lines(code), refExpr(l, x, y)) != "" {
					t.Errorf("%v for %d: %s", x, y, text(code))
				}
			}
		}
		eachExpression(t, l, s.Body)
		eachExpression(t, l, s.Else)
		for _, a := range s.Arms {
			eachExpression(t, l, a.Body)
		}
	}
}

// 14.1: variables in any order, of which the code uses each
func TestRandomVariables(t *testing.T) {
	r := rand.New(rand.NewSource(141))
	for range 300 {
		p := api.Program{Name: "P", Vars: slices.Clone(vars)}
		r.Shuffle(len(p.Vars), func(i, k int) { p.Vars[i], p.Vars[k] = p.Vars[k], p.Vars[i] })
		p.Body = program(whole).Body
		if e := genHolds(t, p, whole); e != api.OK {
			t.Fatal(e)
		}
		p.Vars = p.Vars[:r.Intn(len(p.Vars))]
		genHolds(t, p, whole)
		if t.Failed() {
			return
		}
	}
}

// oddStmt answers a statement of anything.
func oddStmt(r *rand.Rand, depth int) api.Stmt {
	texts := []string{"", "N", "T", "X", "NOBODY", "n", "IF", "B"}
	leaves := []api.Part{variable("N"), variable("B"), variable("NOBODY"), field("T", "Q"), number(5), number(1 << 33), of(api.TBool, 1), of(api.TInt, 40000), op(api.NAdd), {}}
	odd := func() []api.Part {
		return slices.Repeat([]api.Part{leaves[r.Intn(len(leaves))]}, r.Intn(3))
	}
	s := api.Stmt{Kind: r.Intn(12) - 1, Name: texts[r.Intn(len(texts))], X: odd()}
	if r.Intn(3) == 0 {
		s.Index, s.Y, s.By = odd(), odd(), []int64{0, 1, -1, 40000, math.MaxInt64}[r.Intn(5)]
	}
	if r.Intn(3) == 0 {
		s.Args = []api.Arg{{Name: texts[r.Intn(len(texts))], X: odd()}, {Name: "IN", X: odd()}}
	}
	for range r.Intn(3) {
		if depth == 0 {
			break
		}
		s.Body = append(s.Body, oddStmt(r, depth-1))
		s.Arms = append(s.Arms, api.Arm{Labels: make([]int64, r.Intn(3)), Body: []api.Stmt{oddStmt(r, depth-1)}})
		s.Else = append(s.Else, oddStmt(r, depth-1))
	}
	return s
}

// P1, R5: programs of anything end, and are refused as Check does, or have an image
func TestAnyPrograms(t *testing.T) {
	r := rand.New(rand.NewSource(142))
	told := map[api.Errno]int{}
	for range 40000 {
		p := api.Program{Name: "P", Vars: vars}
		if r.Intn(10) == 0 {
			p.Name = []string{"", "n", "N", "IF"}[r.Intn(4)]
		}
		if r.Intn(10) == 0 {
			p.Vars = append(slices.Clone(vars), []api.Var{{}, {Name: "A", Type: 9}, {Name: "N", Type: 1}, {Name: "A", Type: 1, Len: 33}}[r.Intn(4)])
		}
		for range r.Intn(3) {
			p.Body = append(p.Body, oddStmt(r, 1))
		}
		told[genHolds(t, p, fmt.Sprint(p.Body))]++
		if t.Failed() {
			return
		}
	}
	if told[api.OK] < 5000 || told[api.ErrDecl] < 5000 || told[api.ErrName] < 100 || told[api.ErrKind] < 10 {
		t.Error(told)
	}
}

// P1, R5: parts of anything end, and are refused as Fold does
func TestAnyParts(t *testing.T) {
	r := rand.New(rand.NewSource(143))
	some := []api.Part{variable("N"), variable("B"), variable("D"), variable("n"), variable("NOBODY"), field("T", "Q"), field("T", "N"), index("X"), index("N"), number(5), number(0), number(1<<31 + 1), of(api.TTime, 5), of(api.TInt, 3), of(5, 0), to(api.TDint), to(api.TBool), op(17), op(-1), op(math.MaxInt64), {}, {Kind: 9}}
	types := []int{math.MinInt, -1, 0, 1, 2, 3, 4, 5, 101, 1<<32 + 2, math.MaxInt}
	taken := 0
	for range 60000 {
		var x []api.Part
		for range r.Intn(9) {
			p := some[r.Intn(len(some))]
			if r.Intn(2) == 0 {
				p = op(r.Int63n(18))
			}
			x = append(x, p)
		}
		y := types[r.Intn(len(types))]
		folded, want := fold.Fold(vars, x, y)
		l, e := gen.Expr(vars, x, y)
		if e != want || len(l) != len(folded) {
			t.Fatal(x, y, text(l), e, want)
		}
		if e != api.OK {
			continue
		}
		taken++
		if d := differ(lines(l), refExpr(vars, x, y)); d != "" {
			t.Fatal(x, y, d)
		}
	}
	if taken < 100 {
		t.Error(taken)
	}
}

// P1: texts of anything end
func TestAnyTexts(t *testing.T) {
	r := rand.New(rand.NewSource(144))
	words := strings.Fields("program end_program var var_input end_var n x t : ; , := ( ) [ ] . + - * / < = int array of ton if then else end_if while do end_while case end_case 1 2 40000 0 true t#5s exit return (* // { ?")
	for range 20000 {
		var s []string
		for range r.Intn(30) {
			s = append(s, words[r.Intn(len(words))])
		}
		compileIs(t, strings.Join(s, " "))
		compileIs(t, "program p var n : int; end_var "+strings.Join(s, " ")+" end_program")
	}
}

// 14.3: of many random images each may be, and each is encoded
func TestImagesAreEncoded(t *testing.T) {
	r := rand.New(rand.NewSource(145))
	for range 300 {
		m := maker{r, 0}
		body := m.list(2, false) + m.list(2, false)
		x, at, e := gen.Compile(heads + body + " end_program")
		if e == api.ErrLong {
			continue
		}
		if s, f := code.Encode(x); e != api.OK || f != api.OK || s == "" {
			t.Fatalf("%s: %d, %d, Encode %d", body, at, e, f)
		}
	}
}

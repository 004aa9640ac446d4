package ilist_test

import (
	"fmt"
	"math/rand"
	"slices"
	"strings"
	"testing"

	"capstan/api"
	"capstan/code"
	"capstan/decl"
	"capstan/ilist"
	"capstan/typed"
	"capstan/verify"
)

// holds fails the test unless Assemble answers what the reference does, with an image that may be and is verified. It answers the image and the error.
func holds(t *testing.T, head, lines string) (api.Image, api.Errno) {
	t.Helper()
	want, types, wantAt, wantE := refAssemble(head, lines)
	x, at, e := ilist.Assemble(head, lines)
	if at != wantAt || e != wantE {
		t.Errorf("%q, %q: %d, %d, want %d, %d", head, lines, at, e, wantAt, wantE)
		return x, e
	}
	if e != api.OK {
		if !isNothing(x) {
			t.Errorf("%q, %q: %d, %d, and an image", head, lines, at, e)
		}
		return x, e
	}
	if got := text(x.Code); got != want {
		t.Errorf("%q, %q: %s, want %s", head, lines, got, want)
	}
	if got := typesOf(x); got != types {
		t.Errorf("%q: %s, want %s", head, got, types)
	}
	memoryIs(t, head, x)
	if at, e := code.Check(x); at != 0 || e != api.OK {
		t.Errorf("%q, %q: may not be: %d, %d", head, lines, at, e)
	}
	if at, e := verify.Check(x); at != 0 || e != api.OK {
		t.Errorf("%q, %q: is not verified: %d, %d", head, lines, at, e)
	}
	return x, e
}

func typesOf(x api.Image) string {
	s := ""
	for _, typ := range x.Types {
		s += named(typeNames[:], typ) + " "
	}
	return s
}

// memoryIs fails the test unless x has the name, the first values and the points of the head.
func memoryIs(t *testing.T, head string, x api.Image) {
	t.Helper()
	p, _ := decl.Parse(head)
	y := api.Image{Name: p.Name, Code: x.Code}
	y.Types, y.First, _ = typed.Cells(p.Vars)
	for _, v := range p.Vars {
		at, _, _ := typed.Place(p.Vars, v.Name)
		switch v.Dir {
		case api.DInput:
			y.In = append(y.In, at)
		case api.DOutput:
			y.Out = append(y.Out, at)
		}
	}
	if !same(x, y) {
		t.Errorf("%q: %+v, want %+v", head, x, y)
	}
}

// maker makes random lines that mostly are right; wrong is in how many of a hundred places something else is taken.
type maker struct {
	*rand.Rand
	wrong int
	under int // the type of the value under way; 0: there is none
	lines []string
	seen  map[string]bool // labels that are there
	asked []string        // labels that jumps go to
}

// pick answers one of the words of right, or at times one of the others.
func (m *maker) pick(right string, others ...string) string {
	words := strings.Fields(right)
	if m.Intn(100) < m.wrong {
		words = append(words, others...)
	}
	return words[m.Intn(len(words))]
}

// source answers an operand of this type.
func (m *maker) source(typ int) string {
	switch typ {
	case api.TBool:
		return m.pick("b i o t.q s.q1 k.m TRUE FALSE BOOL#1 b i", "n", "xb", "1", "nobody", "t.nobody", "t", "x.q")
	case api.TInt:
		return m.pick("n on in1 c.cv k.pv 5 0 32767 INT#-7 16#FFFF8000 q.last", "d", "40000", "nobody", "x", "t.cv", "T#5s", "2147483648")
	case api.TDint:
		return m.pick("d id od q.cv 5 70000 2147483647 DINT#-5 16#80000000", "n", "2147483648", "nobody", "xd", "INT#5")
	}
	return m.pick("e it ot t.pt f.et g.start T#5s TIME#1m", "5", "n", "xt", "nobody.et", "2147483648", "t.if")
}

// target answers an operand of this type that may be stored to.
func (m *maker) target(typ int) string {
	switch typ {
	case api.TBool:
		return m.pick("b o t.in c.cu q.a z.r1", "i", "t.q", "TRUE", "nobody", "n", "q")
	case api.TInt:
		return m.pick("n on c.pv k.pv", "in1", "c.cv", "5", "x", "d")
	case api.TDint:
		return m.pick("d od", "id", "q.cv", "nobody.q", "e", "40000")
	}
	return m.pick("e ot t.pt g.pt", "it", "t.et", "T#5s", "b")
}

func (m *maker) add(parts ...string) { m.lines = append(m.lines, strings.Join(parts, " ")) }

// label answers a label for a jump.
func (m *maker) label() string {
	l := m.pick("l m k again ld st n b t")
	m.asked = append(m.asked, l)
	return l
}

// withNone adds a line for which there must be no value under way.
func (m *maker) withNone() {
	switch m.Intn(12) {
	case 0:
		m.add("CAL", m.pick("t f g c k r w s z q", "n", "x", "nobody", "i"))
	case 1:
		m.add("RET")
	case 2:
		m.add("JMP", m.label())
	case 3, 4:
		l := m.pick("l m k again ld st n b t")
		if m.seen[l] && m.Intn(100) >= m.wrong {
			return
		}
		m.seen[l] = true
		m.add(l, ":")
	case 5, 6:
		m.under = api.TBool
		m.add("LDN", m.source(api.TBool))
	default:
		m.load(api.TBool + m.Intn(4))
	}
}

func (m *maker) load(typ int) {
	x := m.source(typ)
	m.under = typ
	if typ == api.TDint && (x == "5" || x == "16#FFFFFFFF") {
		m.under = api.TInt
	}
	m.add("LD", x)
}

// withOne adds a line for which there must be a value under way.
func (m *maker) withOne() {
	kind := m.Intn(10)
	switch {
	case kind < 3:
		m.add("ST", m.target(m.under))
		m.under = 0
	case kind < 4 && m.under == api.TBool:
		m.add(m.pick("S R"), m.target(api.TBool))
		m.under = 0
	case kind < 5 && m.under == api.TBool:
		m.add(m.pick("JMPC JMPCN"), m.label())
		m.under = 0
	case kind < 6:
		m.add(m.pick([]string{"NOT", "NEG NOT", "NEG NOT", "NEG"}[m.under-1], "NOT", "NEG"))
	case kind < 7:
		m.add(m.pick([]string{"EQ NE", "GT GE EQ NE LE LT", "GT GE EQ NE LE LT", "GT GE EQ NE LE LT"}[m.under-1], "GT"), m.source(m.under))
		m.under = api.TBool
	default:
		m.add(m.pick([]string{"AND ANDN OR ORN XOR", "AND OR XOR ADD SUB MUL DIV MOD", "AND OR XOR ADD SUB MUL DIV MOD", "ADD SUB"}[m.under-1], "ANDN", "MUL", "ADD"), m.source(m.under))
	}
}

// list answers some lines, which end with no value under way, and with the labels that are asked for, but for what is wrong.
func (m *maker) list(many int) string {
	m.under, m.lines, m.seen, m.asked = 0, nil, map[string]bool{}, nil
	for range many {
		if (m.under == 0) != (m.Intn(100) < m.wrong) {
			m.withNone()
		} else if m.under != 0 {
			m.withOne()
		}
	}
	if m.under != 0 && m.Intn(100) >= m.wrong {
		m.add("ST", m.target(m.under))
		m.under = 0
	}
	for _, l := range m.asked {
		if !m.seen[l] && m.Intn(100) >= m.wrong {
			m.seen[l] = true
			m.add(l, ":")
		}
	}
	if m.Intn(100) < m.wrong {
		at := m.Intn(len(m.lines) + 1)
		m.lines = slices.Insert(m.lines, at, m.pick("5 LD foo : IF l: ST&b ANDN n. RET:RET: # 2147483649"))
	}
	return strings.Join(m.lines, m.pick("~ ~~ \n ;;", "\t", "(**)"))
}

// written makes ~ a blank, and ;; a line's end, which separate lines in the maker's lists; at times in capital letters.
func (m *maker) written(many int) string {
	s := strings.NewReplacer("~", " ", ";;", "\n").Replace(m.list(many))
	if m.Intn(3) == 0 {
		s = strings.ToUpper(s)
	}
	return s
}

// 18.1, 18.2: random lists
func TestRandomLists(t *testing.T) {
	m := &maker{Rand: rand.New(rand.NewSource(18))}
	told, ops := map[api.Errno]int{}, map[int]int{}
	for i := range 8000 {
		if t.Failed() {
			return // one list tells enough
		}
		m.wrong = i % 4 * (i % 3)
		x, e := holds(t, head, m.written(m.Intn(40)))
		told[e]++
		for _, c := range x.Code {
			ops[c.Op]++
		}
	}
	for _, e := range []api.Errno{api.OK, api.ErrStmt, api.ErrName, api.ErrKind, api.ErrType, api.ErrRange, api.ErrLabel, api.ErrToken} {
		if told[e] < 20 {
			t.Errorf("%d told %d times", e, told[e])
		}
	}
	for _, op := range []int{api.IPush, api.ILoad, api.IStore, api.ITwo, api.IOne, api.IJump, api.IFalse, api.ICall, api.IEnd} {
		if ops[op] < 3000 {
			t.Errorf("op %d %d times", op, ops[op])
		}
	}
}

// 18.1: right lists of which one token is left out, doubled, put elsewhere, or another one
func TestRandomSlips(t *testing.T) {
	m := &maker{Rand: rand.New(rand.NewSource(181))}
	told := map[api.Errno]int{}
	for range 8000 {
		if t.Failed() {
			return
		}
		l := strings.Fields(strings.NewReplacer(".", " . ", ":", " : ").Replace(m.written(3 + m.Intn(12))))
		if len(l) == 0 {
			continue
		}
		at, to := m.Intn(len(l)), m.Intn(len(l))
		switch m.Intn(5) {
		case 0:
			l = slices.Delete(l, at, at+1)
		case 1:
			l = slices.Insert(l, at, l[at])
		case 2:
			l[at], l[to] = l[to], l[at]
		case 3:
			l[at] = l[to]
		case 4:
			l[at] = anyToken(m.Rand)
		}
		_, e := holds(t, head, strings.Join(l, " "))
		told[e]++
	}
	for _, e := range []api.Errno{api.OK, api.ErrStmt, api.ErrName, api.ErrKind, api.ErrType, api.ErrLabel} {
		if told[e] < 50 {
			t.Errorf("%d told %d times", e, told[e])
		}
	}
}

var anyTokens = strings.Fields("LD LDN ST S R AND ANDN OR ORN XOR ADD SUB MUL DIV MOD GT GE EQ NE LE LT NOT NEG RET JMP JMPC JMPCN CAL : : . . := ; , n b d e i o t q x c t.q t.in 5 0 40000 2147483648 TRUE FALSE INT#5 DINT#5 T#5s BOOL#1 IF VAR BOOL TON l m ld nobody foo ( ) [ ] + -")

func anyToken(r *rand.Rand) string { return anyTokens[r.Intn(len(anyTokens))] }

// 18.1: lists of any tokens
func TestAnyTokens(t *testing.T) {
	r := rand.New(rand.NewSource(182))
	for range 15000 {
		if t.Failed() {
			return
		}
		var l []string
		if r.Intn(2) == 0 {
			l = append(l, []string{"LD b", "LD n", "LD d", "LD e", "l: LD n ST n", "JMP l"}[r.Intn(6)])
		}
		for range r.Intn(6) {
			l = append(l, anyToken(r))
		}
		holds(t, head, strings.Join(l, " "))
	}
}

// P1: heads and lines of anything end
func TestAnyTexts(t *testing.T) {
	r := rand.New(rand.NewSource(183))
	heads := []string{head, "program p end_program", "program p var n : int; b : bool; t : ton; end_var end_program", "program p return; end_program", ""}
	for _, c := range badHeads {
		heads = append(heads, c.head)
	}
	lists := []string{"", "LD b", "LD n ST n", "l: LD b JMPC l", "CAL t", "LD n ADD 5 ST n", "LD t.q S b", "#"}
	spoiled := func(s string) string {
		b := []byte(s)
		for range r.Intn(3) {
			at := r.Intn(len(b) + 1)
			switch part := []byte{byte(r.Intn(256))}; r.Intn(3) {
			case 0:
				b = slices.Insert(b, at, part...)
			case 1:
				b = append(b[:at:at], part...)
			case 2:
				b = b[:at]
			}
		}
		return string(b)
	}
	for range 20000 {
		if t.Failed() {
			return
		}
		holds(t, spoiled(heads[r.Intn(len(heads))]), spoiled(lists[r.Intn(len(lists))]))
	}
}

// 18.1: heads with any variables, and lines that use each
func TestRandomHeads(t *testing.T) {
	r := rand.New(rand.NewSource(184))
	told := map[api.Errno]int{}
	for range 3000 {
		if t.Failed() {
			return
		}
		var h, l strings.Builder
		h.WriteString("program p ")
		for n := range r.Intn(20) {
			typ := strings.ToLower(typeNames[1+r.Intn(4)])
			switch kind := r.Intn(6); kind {
			case 0, 1:
				fmt.Fprintf(&h, "%s v%d : %s; end_var ", []string{"var_input", "var_output"}[kind], n, typ)
			case 2:
				fmt.Fprintf(&h, "var v%d : array[0..%d] of %s; end_var ", n, r.Intn(32), typ)
			case 3:
				fmt.Fprintf(&h, "var v%d : %s; end_var ", n, blockNames[1+r.Intn(10)])
			default:
				fmt.Fprintf(&h, "var v%d : %s; end_var ", n, typ)
			}
		}
		h.WriteString("end_program")
		field := []string{"", "", "", ".q", ".in", ".pt", ".cv", ".clk", ".q1", ".pv"}
		for range r.Intn(5) {
			switch r.Intn(3) {
			case 0:
				fmt.Fprintf(&l, "LD v%d%s ST v%d%s ", r.Intn(20), field[r.Intn(10)], r.Intn(20), field[r.Intn(10)])
			case 1:
				fmt.Fprintf(&l, "CAL v%d ", r.Intn(20))
			case 2:
				v := r.Intn(20)
				fmt.Fprintf(&l, "LD v%d EQ v%d S v%d ", v, v, r.Intn(20))
			}
		}
		_, e := holds(t, h.String(), l.String())
		told[e]++
	}
	for _, e := range []api.Errno{api.OK, api.ErrName, api.ErrKind, api.ErrType} {
		if told[e] < 50 {
			t.Errorf("%d told %d times", e, told[e])
		}
	}
}

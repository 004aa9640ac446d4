package expr_test

import (
	"fmt"
	"math"
	"math/rand"
	"slices"
	"strconv"
	"strings"
	"testing"
	"unsafe"

	"capstan/api"
	"capstan/expr"
	"capstan/lex"
)

// signs are the signs of the operations, at their numbers.
var signs = []string{1: "+", "-", "*", "/", "MOD", "AND", "OR", "XOR", "=", "<>", "<", "<=", ">", ">=", "neg", "not"}

var none = api.Fault{}

func num(n int64) api.Part { return api.Part{Kind: api.PNum, N: n} }

func of(t int, n int64) api.Part { return api.Part{Kind: api.PNum, N: n, T: t} }

func variable(s string) api.Part { return api.Part{Kind: api.PVar, S: s} }

func index(s string) api.Part { return api.Part{Kind: api.PIndex, S: s} }

func field(s, f string) api.Part { return api.Part{Kind: api.PField, S: s, F: f} }

func op(n int64) api.Part { return api.Part{Kind: api.POp, N: n} }

func to(t int) api.Part { return api.Part{Kind: api.PTo, T: t} }

func parts(p ...api.Part) []api.Part { return p }

func word(s string) api.Token { return api.Token{Kind: api.KWord, S: s} }

func sign(s string) api.Token { return api.Token{Kind: api.KSign, S: s} }

func number(n int64) api.Token { return api.Token{Kind: api.KNum, N: n} }

func numberOf(t int, n int64) api.Token { return api.Token{Kind: api.KNum, N: n, Type: t} }

// tokens answers the tokens of a text that is right, without the end.
func tokens(s string) []api.Token {
	l, f := lex.Tokens(s)
	if f != none {
		panic(s)
	}
	return l[:len(l)-1]
}

func shownNumber(t int, n int64) string {
	switch {
	case t == api.TBool && n == 1:
		return "TRUE"
	case t == api.TBool && n == 0:
		return "FALSE"
	}
	if t < 0 || t > api.TTime {
		return "?#" + strconv.FormatInt(n, 10)
	}
	return []string{"", "BOOL#", "INT#", "DINT#", "T#"}[t] + strconv.FormatInt(n, 10)
}

// plain answers tokens as a text, a blank between two, whatever they are.
func plain(l []api.Token) string {
	var s []string
	for _, t := range l {
		if t.Kind == api.KNum {
			s = append(s, shownNumber(t.Type, t.N))
		} else {
			s = append(s, t.S)
		}
	}
	return strings.Join(s, " ")
}

// behind answers parts that may be as a text, each behind what it works on.
func behind(x []api.Part) string {
	var s []string
	for _, p := range x {
		switch p.Kind {
		case api.PNum:
			s = append(s, shownNumber(p.T, p.N))
		case api.PVar:
			s = append(s, p.S)
		case api.PIndex:
			s = append(s, p.S+"[]")
		case api.PField:
			s = append(s, p.S+"."+p.F)
		case api.POp:
			s = append(s, signs[p.N])
		case api.PTo:
			s = append(s, []string{2: "TO_INT", 3: "TO_DINT", 4: "TO_TIME"}[p.T])
		}
	}
	return strings.Join(s, " ")
}

// 6.1
func TestNames(t *testing.T) {
	for _, s := range []string{"A", "Z", "_", "__", "_5", "A1", "A_1_", "X", "T", "TI", "TIMES", "WHILE1", "_IF", "IF_", "IFF", "I", "END", "END_", "VAR_IN_OUT", "TO_", "TO_BOOL", "R_TRIGGER", "TRIG", "REAL", "N", "ABCDEFGHIJKLM_OPQRSTUVWXYZ"[:24]} {
		if !expr.Name(s) {
			t.Errorf("Name(%q) is false", s)
		}
	}
	for _, s := range []string{"", " ", "5", "5A", "0", "a", "aB", "Ab", "A b", "A ", " A", "A.B", "A-B", "é", "AÉ", "A\x00", "A\xff", "\xffA", "A[", "@", "[", "`", "A/", "A:", "A\n", "while", "While", "ıF", "İF"} {
		if expr.Name(s) {
			t.Errorf("Name(%q) is true", s)
		}
	}
}

// 6.1
func TestKeywordsAreNoNames(t *testing.T) {
	for _, k := range refKeywords {
		if expr.Name(k) || expr.Name(strings.ToLower(k)) {
			t.Errorf("Name(%q) is true", k)
		}
		for _, s := range []string{k + "1", k + "_", "_" + k, "X" + k, k + k} {
			if want := s != "XOR"; len(s) <= api.MaxName && expr.Name(s) != want {
				t.Errorf("Name(%q) is %v", s, !want)
			}
		}
		if cut := k[:len(k)-1]; expr.Name(cut) != refName(cut) {
			t.Errorf("Name(%q) = %v", cut, expr.Name(cut))
		}
	}
}

// 6.1
func TestNamesOfMaxName(t *testing.T) {
	for _, c := range []string{"A", "_", "Z9", "_0A"} {
		long := strings.Repeat(c, 1000)
		for n := range 40 {
			if got, want := expr.Name(long[:n]), n > 0 && n <= api.MaxName; got != want {
				t.Errorf("Name(%q), of %d letters, is %v", long[:n], n, got)
			}
		}
		if expr.Name(long) {
			t.Errorf("Name of %d bytes is true", len(long))
		}
	}
}

// 6.1
func TestNamesOfEachByte(t *testing.T) {
	for a := range 256 {
		if s := string([]byte{byte(a)}); expr.Name(s) != refName(s) {
			t.Errorf("Name(%q) = %v", s, expr.Name(s))
		}
		for b := range 256 {
			if s := string([]byte{byte(a), byte(b)}); expr.Name(s) != refName(s) {
				t.Errorf("Name(%q) = %v", s, expr.Name(s))
			}
			if s := string([]byte{'Q', byte(a), byte(b)}); expr.Name(s) != refName(s) {
				t.Errorf("Name(%q) = %v", s, expr.Name(s))
			}
		}
	}
}

// checks fails the test unless Check answers e, and so do Tokens and Names, with nothing beside it if it is an error.
func checks(t *testing.T, x []api.Part, e api.Errno) {
	t.Helper()
	if got := expr.Check(x); got != e {
		t.Errorf("Check(%.300s) = %d, want %d", fmt.Sprint(x), got, e)
	}
	if l, got := expr.Tokens(x); got != e || e != api.OK && len(l) > 0 || e == api.OK && len(l) == 0 {
		t.Errorf("Tokens(%.300s) = %v, %d, want %d", fmt.Sprint(x), l, got, e)
	}
	if s, got := expr.Names(x); got != e || e != api.OK && len(s) > 0 {
		t.Errorf("Names(%.300s) = %q, %d, want %d", fmt.Sprint(x), s, got, e)
	}
}

// 6.2
func TestCheck(t *testing.T) {
	a, b := variable("A"), variable("B")
	for _, x := range [][]api.Part{
		{a}, {num(5)}, {field("T", "Q")}, {num(1), index("A")}, {a, op(api.NNeg)}, {a, op(api.NNot)}, {a, to(api.TInt)}, {a, to(api.TDint)}, {a, to(api.TTime)},
		{a, b, op(api.NAdd)}, {a, b, op(api.NGe)}, {a, op(api.NNot), b, op(api.NAnd)}, {a, b, op(api.NNot), op(api.NAnd)}, {a, b, num(2), op(api.NMul), op(api.NAdd)},
		{a, index("A"), index("A")}, {a, index("A"), b, index("B"), op(api.NSub)}, {a, b, op(api.NAdd), to(api.TInt)}, {field("T", "ET"), to(api.TDint)},
	} {
		checks(t, x, api.OK)
	}
}

// 6.2
func TestCheckOfWhatIsNotOneExpression(t *testing.T) {
	a, b := variable("A"), variable("B")
	for _, x := range [][]api.Part{
		nil, {}, {a, b}, {num(1), num(2)}, {a, b, a}, {field("T", "Q"), a}, {a, b, op(api.NAdd), a},
		{op(api.NAdd)}, {a, op(api.NAdd)}, {op(api.NAdd), a, b}, {a, op(api.NAdd), b}, {a, b, op(api.NAdd), op(api.NAdd)}, {a, b, op(api.NAdd), a, op(api.NNot)},
		{op(api.NNeg)}, {op(api.NNot), a}, {index("A")}, {index("A"), a}, {to(api.TInt)}, {to(api.TInt), a}, {a, index("A"), b}, {a, b, to(api.TInt)}, {a, b, op(api.NNot)},
	} {
		checks(t, x, api.ErrExpr)
	}
	for n := int64(1); n <= 16; n++ {
		for count := range 4 {
			x := append(slices.Repeat(parts(a), count), op(n))
			want := api.ErrExpr
			if n >= api.NNeg && count == 1 || n < api.NNeg && count == 2 {
				want = api.OK
			}
			checks(t, x, want)
		}
	}
}

// 6.2: of each kind what it names, and what is not zero though the kind does not name it
func TestCheckOfWhatAKindDoesNotName(t *testing.T) {
	a := variable("A")
	for _, c := range []struct {
		ahead  []api.Part
		p      api.Part
		spoilt []func(p *api.Part)
	}{
		{nil, num(5), []func(p *api.Part){setS, setF}},
		{nil, of(api.TInt, 5), []func(p *api.Part){setS, setF}},
		{nil, variable("A"), []func(p *api.Part){setN, setT, setF}},
		{parts(a), index("A"), []func(p *api.Part){setN, setT, setF}},
		{nil, field("T", "Q"), []func(p *api.Part){setN, setT}},
		{parts(a), op(api.NNot), []func(p *api.Part){setT, setS, setF}},
		{parts(a, a), op(api.NMod), []func(p *api.Part){setT, setS, setF}},
		{parts(a), to(api.TInt), []func(p *api.Part){setN, setS, setF}},
	} {
		checks(t, append(slices.Clone(c.ahead), c.p), api.OK)
		for _, spoil := range c.spoilt {
			p := c.p
			spoil(&p)
			checks(t, append(slices.Clone(c.ahead), p), api.ErrExpr)
			checks(t, append(append(parts(a), append(slices.Clone(c.ahead), p)...), op(api.NAdd)), api.ErrExpr)
		}
	}
}

func setN(p *api.Part) { p.N = 1 }

func setT(p *api.Part) { p.T = api.TBool }

func setS(p *api.Part) { p.S = "A" }

func setF(p *api.Part) { p.F = "Q" }

// 6.2
func TestCheckOfKindsAndOperations(t *testing.T) {
	a := variable("A")
	for _, kind := range []int{-1, 0, 7, 8, 100, math.MaxInt, math.MinInt} {
		for count := range 3 {
			checks(t, append(slices.Repeat(parts(a), count), api.Part{Kind: kind}), api.ErrExpr)
			checks(t, append(slices.Repeat(parts(a), count), api.Part{Kind: kind, N: 1}), api.ErrExpr)
			checks(t, append(slices.Repeat(parts(a), count), api.Part{Kind: kind, S: "A"}), api.ErrExpr)
			checks(t, append(slices.Repeat(parts(a), count), api.Part{Kind: kind, T: api.TInt}), api.ErrExpr)
		}
	}
	for _, n := range []int64{-1, 0, 17, 18, 100, 1<<32 + 1, -15, math.MaxInt64, math.MinInt64} {
		for count := range 4 {
			checks(t, append(slices.Repeat(parts(a), count), op(n)), api.ErrExpr)
		}
	}
	for _, y := range []int{-1, 0, api.TBool, 5, 6, 100, math.MaxInt, math.MinInt} {
		checks(t, parts(a, to(y)), api.ErrExpr)
	}
}

// 6.2
func TestCheckOfNames(t *testing.T) {
	for _, s := range append([]string{"A", "_", "T1", "WHILE1", "", "5A", "a", "A B", "A.B", "É", strings.Repeat("A", 24), strings.Repeat("A", 25)}, refKeywords...) {
		want, wantField := api.ErrExpr, api.ErrExpr
		if refName(s) {
			want = api.OK
		}
		if refWord.MatchString(s) {
			wantField = api.OK
		}
		checks(t, parts(variable(s)), want)
		checks(t, parts(num(1), index(s)), want)
		checks(t, parts(field(s, "Q")), want)
		checks(t, parts(field("T", s)), wantField)
	}
}

// 6.2
func TestCheckOfNumbers(t *testing.T) {
	for y := -2; y <= 7; y++ {
		for _, edge := range []int64{0, 1, -32768, 32767, 65536, -2147483648, 2147483647, 4294967296, math.MinInt64 + 4, math.MaxInt64 - 4} {
			for n := edge - 3; n <= edge+3; n++ {
				want := api.ErrExpr
				if refNumber(y, n) {
					want = api.OK
				}
				checks(t, parts(of(y, n)), want)
			}
		}
	}
}

// chain answers A, and n operations on it that add another one each: 2n + 1 parts, n + 1 deep.
func chain(n int) []api.Part {
	x := parts(variable("A"))
	for range n {
		x = append(x, variable("B"), op(api.NAdd))
	}
	return x
}

// wide answers n values, added up so that the depth stays as small as it can be: 2n - 1 parts.
func wide(n int) []api.Part {
	if n == 1 {
		return parts(variable("A"))
	}
	return append(append(wide(n/2), wide(n-n/2)...), op(api.NAdd))
}

// 6.2
func TestCheckOfLengths(t *testing.T) {
	checks(t, wide(250), api.OK)
	just := append(wide(250), op(api.NNot))
	checks(t, just, api.OK)
	if len(just) != 500 {
		t.Fatalf("%d parts", len(just))
	}
	over := append(just, op(api.NNot))
	checks(t, over, api.ErrLong)
	checks(t, wide(1000), api.ErrLong)
	checks(t, slices.Repeat(parts(num(1)), 500), api.ErrExpr)
	checks(t, slices.Repeat(parts(num(1)), 501), api.ErrLong)
	checks(t, make([]api.Part, 500), api.ErrExpr)
	checks(t, make([]api.Part, 501), api.ErrLong)
	checks(t, chain(250), api.ErrLong)
	checks(t, chain(249), api.ErrExpr)
}

// 6.2
func TestCheckOfDepths(t *testing.T) {
	checks(t, chain(23), api.OK)
	checks(t, chain(24), api.ErrExpr)
	for _, c := range []struct {
		first, more api.Part
	}{
		{variable("A"), op(api.NNot)}, {variable("A"), op(api.NNeg)}, {num(1), index("A")}, {num(1), to(api.TInt)}, {field("T", "Q"), op(api.NNot)}, {of(api.TInt, 1), index("A")},
	} {
		x := append(parts(c.first), slices.Repeat(parts(c.more), 23)...)
		checks(t, x, api.OK)
		checks(t, append(slices.Clone(x), c.more), api.ErrExpr)
		checks(t, append(slices.Clone(x), num(1), op(api.NAdd)), api.ErrExpr)
		checks(t, append(append(parts(num(1)), x...), op(api.NAdd)), api.ErrExpr)
		checks(t, append(append(parts(num(1)), x[:23]...), op(api.NAdd)), api.OK)
		checks(t, append(slices.Clone(x[:23]), num(1), op(api.NAdd)), api.OK)
	}
}

// 6.2
func TestNamesOfParts(t *testing.T) {
	a, b := variable("A"), variable("B")
	for _, c := range []struct {
		x    []api.Part
		want string
	}{
		{parts(num(5)), ""}, {parts(of(api.TBool, 1), op(api.NNot)), ""}, {parts(a), "A"}, {parts(num(1), index("A")), "A"}, {parts(field("T", "Q")), "T"}, {parts(field("T", "IF")), "T"},
		{parts(b, a, op(api.NAdd)), "A B"}, {parts(a, a, op(api.NAdd)), "A"}, {parts(b, index("A"), field("B", "Q"), op(api.NAdd)), "A B"},
		{parts(a, index("A")), "A"}, {parts(field("A", "C"), field("C", "A"), op(api.NOr)), "A C"}, {parts(b, to(api.TInt), op(api.NNeg)), "B"},
		{parts(variable("_"), variable("Z"), op(api.NAdd), variable("A9"), op(api.NAdd), variable("AA"), op(api.NAdd), variable("A_"), op(api.NAdd), variable("A"), op(api.NAdd), variable("Z0"), op(api.NAdd)), "A A9 AA A_ Z Z0 _"},
		{parts(b, a, op(api.NAdd), b, op(api.NAdd), a, op(api.NAdd), variable("C"), op(api.NAdd), b, op(api.NAdd)), "A B C"},
	} {
		if s, e := expr.Names(c.x); strings.Join(s, " ") != c.want || e != api.OK {
			t.Errorf("Names(%s) = %q, %d, want %s", behind(c.x), s, e, c.want)
		}
	}
}

// randomPart answers a part that is mostly right.
func randomPart(r *rand.Rand) api.Part {
	names := []string{"A", "B", "AB", "_", "Z9", "I"}
	name := names[r.Intn(len(names))]
	p := []api.Part{num(r.Int63n(9) - 4), of(1+r.Intn(4), r.Int63n(3)), variable(name), variable(name), index(name), field(name, "Q"), op(1 + r.Int63n(16)), op(1 + r.Int63n(16)), to(2 + r.Intn(3))}[r.Intn(9)]
	if r.Intn(60) == 0 {
		[]func(p *api.Part){setN, setT, setS, setF, func(p *api.Part) { p.Kind = r.Intn(9) - 1 }, func(p *api.Part) { p.S = "IF" }, func(p *api.Part) { p.N = 40000 }}[r.Intn(7)](&p)
	}
	return p
}

// randomParts answers parts that are mostly one expression.
func randomParts(r *rand.Rand, n int) []api.Part {
	var x []api.Part
	values := 0
	for len(x) < n || values > 1 {
		p := randomPart(r)
		need := 0
		switch {
		case p.Kind == api.PIndex, p.Kind == api.PTo, p.Kind == api.POp && p.N >= api.NNeg:
			need = 1
		case p.Kind == api.POp:
			need = 2
		}
		if need > values && r.Intn(200) > 0 || len(x) >= n && need < 2 {
			continue
		}
		values += 1 - need
		x = append(x, p)
		if len(x) > 2*n+10 {
			break
		}
	}
	return x
}

// 6.2, R7
func TestCheckAgainstTheReference(t *testing.T) {
	r := rand.New(rand.NewSource(62))
	good := 0
	for range 60000 {
		x := randomParts(r, 1+r.Intn(30))
		want := refCheck(x)
		if want == api.OK {
			good++
		}
		if got, again := expr.Check(x), expr.Check(x); got != want || again != want {
			t.Fatalf("Check(%v) = %d and %d, want %d", x, got, again, want)
		}
	}
	if good < 10000 || good > 55000 {
		t.Errorf("%d were right", good)
	}
}

// 6.2: all lists of up to 4 parts
func TestCheckOfShortLists(t *testing.T) {
	some := parts(num(1), of(api.TBool, 2), variable("A"), variable("IF"), index("A"), field("T", "OF"), op(api.NAdd), op(api.NNot), to(api.TInt), to(api.TBool), api.Part{}, api.Part{Kind: api.PVar, S: "A", N: 1})
	var try func(x []api.Part)
	try = func(x []api.Part) {
		checks(t, x, refCheck(x))
		if len(x) < 4 {
			for _, p := range some {
				try(append(slices.Clone(x), p))
			}
		}
	}
	try(nil)
}

// R4
func TestPartsStayAsTheyAre(t *testing.T) {
	room := append(parts(variable("B"), num(-1), index("A"), op(api.NSub), field("B", "Q"), op(api.NEq)), parts(variable("C"), op(api.NAdd), op(99))...)
	kept := slices.Clone(room)
	x := room[:6]
	checks(t, x, api.OK)
	if !slices.Equal(room, kept) {
		t.Errorf("%v turned into %v", kept, room)
	}
	s, _ := expr.Names(x)
	l, _ := expr.Tokens(x)
	wantS, wantL := slices.Clone(s), slices.Clone(l)
	for i := range s[:cap(s)] {
		s[:cap(s)][i] = "X"
	}
	for i := range l[:cap(l)] {
		l[:cap(l)][i] = api.Token{Kind: 9}
	}
	if !slices.Equal(room, kept) {
		t.Errorf("writing to answers turned %v into %v", kept, room)
	}
	if s, e := expr.Names(x); !slices.Equal(s, wantS) || e != api.OK {
		t.Errorf("Names(%s) = %q, then %q, %d", behind(x), wantS, s, e)
	}
	if l, e := expr.Tokens(x); !slices.Equal(l, wantL) || e != api.OK {
		t.Errorf("Tokens(%s) = %v, then %v, %d", behind(x), wantL, l, e)
	}
}

// R4: no text of an answer is the memory of one that was handed in.
func TestTextsAreNewMemory(t *testing.T) {
	name, field, block := strings.Clone("NAME"), strings.Clone("FIELD"), strings.Clone("BLOCK")
	given := []*byte{unsafe.StringData(name), unsafe.StringData(field), unsafe.StringData(block)}
	x := parts(variable(name), index(name), api.Part{Kind: api.PField, S: block, F: field}, op(api.NAdd))
	l, _ := expr.Tokens(x)
	s, _ := expr.Names(x)
	for _, k := range l {
		if slices.Contains(given, unsafe.StringData(k.S)) {
			t.Errorf("Tokens: %q is handed out as it came", k.S)
		}
	}
	for _, n := range s {
		if slices.Contains(given, unsafe.StringData(n)) {
			t.Errorf("Names: %q is handed out as it came", n)
		}
	}
	p, _, _ := expr.Parse([]api.Token{word(name), sign("["), word(name), sign("]"), sign("+"), word(block), sign("."), word(field)}, 0)
	if !slices.Equal(p, x) {
		t.Fatalf("Parse answers %v, want %v", p, x)
	}
	for _, q := range p {
		for _, s := range []string{q.S, q.F} {
			if s != "" && slices.Contains(given, unsafe.StringData(s)) {
				t.Errorf("Parse: %q is handed out as it came", s)
			}
		}
	}
}

package typed_test

import (
	"fmt"
	"math"
	"math/rand"
	"slices"
	"strings"
	"testing"

	"capstan/api"
	"capstan/expr"
	"capstan/typed"
)

// typeIs fails the test unless Type and, at each number, Fits answer of x among l as the reference does; it answers what Type did.
func typeIs(t *testing.T, l []api.Var, x []api.Part) (int, api.Errno) {
	t.Helper()
	k, e := typed.Type(l, x)
	root, wantE := refRoot(l, x)
	want := 0
	if wantE == api.OK {
		want = root.typeOf(l)
	}
	if k != want || e != wantE {
		t.Errorf("Type of %s = %d, %d, want %d, %d", shown(x), k, e, want, wantE)
	}
	for y := range 6 {
		want := wantE
		if want == api.OK {
			want = root.fits(l, y)
		}
		if got := typed.Fits(l, x, y); got != want {
			t.Errorf("Fits of %s and %d = %d, want %d", shown(x), y, got, want)
		}
	}
	return k, e
}

func shown(x []api.Part) string {
	var l []string
	for _, p := range x {
		l = append(l, fmt.Sprintf("%+v", p))
	}
	return strings.Join(l, " ")
}

// 9.2: ordinary expressions, and the chapter's examples
func TestTypes(t *testing.T) {
	for text, want := range map[string]int{
		"n + 1 < 7": api.TBool, "1 + 2": 0, "1": 0, "- 1": 0, "not 5": 0, "1 and 2 or 3 xor 4": 0, "7 / 0": 0,
		"true": api.TBool, "false": api.TBool, "bool#1": api.TBool, "int#5": api.TInt, "dint#5": api.TDint, "t#5s": api.TTime,
		"i": api.TBool, "in1": api.TInt, "id": api.TDint, "it": api.TTime, "o": api.TBool, "on": api.TInt, "b": api.TBool, "n": api.TInt, "d": api.TDint, "e": api.TTime,
		"xb[0]": api.TBool, "x[0]": api.TInt, "xd[0]": api.TDint, "xt[0]": api.TTime, "x[99]": api.TInt, "x[-1]": api.TInt,
		"x[n]": api.TInt, "x[d]": api.TInt, "x[x[x[0]]]": api.TInt, "xb[to_int(e)]": api.TBool, "x[int#1]": api.TInt, "x[c.cv]": api.TInt, "x[q.cv]": api.TInt,
		"t.q": api.TBool, "t.et": api.TTime, "f.start": api.TTime, "g.run": api.TBool, "c.pv": api.TInt, "k.ld": api.TBool, "r.clk": api.TBool, "w.m": api.TBool, "s.s1": api.TBool, "z.q1": api.TBool, "q.cv": api.TDint, "q.last": api.TInt, "q.err": api.TBool,
		"to_int(d)": api.TInt, "to_dint(n)": api.TDint, "to_time(n)": api.TTime, "to_int(e)": api.TInt, "to_int(n)": api.TInt, "to_int(1)": api.TInt, "to_time(2147483647)": api.TTime, "to_int(70000)": api.TInt,
		"n + 1": api.TInt, "1 + n": api.TInt, "d + 70000": api.TDint, "n * (1 + 2)": api.TInt, "(1 + 2) * (n - 3)": api.TInt, "e + t#5s": api.TTime, "e - e": api.TTime, "- e": api.TTime, "- n": api.TInt, "not n": api.TInt, "not d": api.TDint, "not b": api.TBool,
		"b and i": api.TBool, "n and 7": api.TInt, "d xor 1": api.TDint, "b = i": api.TBool, "e <> it": api.TBool, "e < it": api.TBool, "n >= 5": api.TBool, "1 < 2": api.TBool, "70000 = 5": api.TBool, "1 + 2 < 4": api.TBool,
		"n + to_int(70000)": api.TInt, "n + x[70000]": api.TInt, "(1 < 2) and b": api.TBool, "to_dint(2 * 3) + d": api.TDint, "n mod 2 = 0": api.TBool, "d / 70000 * 2": api.TDint,
	} {
		if k, e := typeIs(t, vars, parts(text)); k != want || e != api.OK {
			t.Errorf("Type of %s = %d, %d, want %d", text, k, e, want)
		}
	}
}

// 9.2: what is wrong in one part
func TestTypesThatAreWrong(t *testing.T) {
	for text, want := range map[string]api.Errno{
		"nobody": api.ErrName, "nobody[0]": api.ErrName, "nobody.q": api.ErrName, "p": api.ErrName, "p.q": api.ErrName,
		"x": api.ErrKind, "xt": api.ErrKind, "t": api.ErrKind, "q": api.ErrKind, "n[0]": api.ErrKind, "i[0]": api.ErrKind, "t[0]": api.ErrKind, "n.q": api.ErrKind, "x.q": api.ErrKind, "i.in": api.ErrKind,
		"t.cv": api.ErrKind, "c.in": api.ErrKind, "t.nobody": api.ErrKind, "t.q1": api.ErrKind, "s.q": api.ErrKind, "s.s": api.ErrKind, "z.s1": api.ErrKind, "c.ld": api.ErrKind, "k.r": api.ErrKind, "r.in": api.ErrKind, "q.q": api.ErrKind, "t.if": api.ErrKind,
		"x[b]": api.ErrType, "x[e]": api.ErrType, "x[true]": api.ErrType, "x[t#5s]": api.ErrType, "x[t.q]": api.ErrType, "x[1 < 2]": api.ErrType,
		"to_int(b)": api.ErrType, "to_dint(true)": api.ErrType, "to_time(n < 5)": api.ErrType,
		"n + d": api.ErrType, "n + b": api.ErrType, "d + n": api.ErrType, "e + n": api.ErrType, "e + 1": api.ErrType, "1 + e": api.ErrType, "b and 1": api.ErrType, "1 and b": api.ErrType, "b = 1": api.ErrType, "e < 5": api.ErrType, "b + i": api.ErrType, "b < i": api.ErrType, "- b": api.ErrType, "not e": api.ErrType, "e * e": api.ErrType, "e mod e": api.ErrType, "e / e": api.ErrType, "e and e": api.ErrType, "int#5 + dint#5": api.ErrType, "n = d": api.ErrType, "t#1s * 2": api.ErrType, "b * i": api.ErrType,
		"1 + (2 < 3)": api.ErrType, "e + 2147483648": api.ErrType, "b and 70000": api.ErrType,
		"n + 40000": api.ErrRange, "40000 + n": api.ErrRange, "n + 32768": api.ErrRange, "n + (1 + 32768)": api.ErrRange, "n + - 32769": api.ErrRange, "n = 32768": api.ErrRange, "n * (2 and (5 - 40000))": api.ErrRange,
		"d + 2147483648": api.ErrRange, "d + - 2147483648": api.ErrRange, "2147483648": api.ErrRange, "- 2147483648": api.ErrRange, "1 + 2147483648": api.ErrRange, "1 < 2147483648": api.ErrRange, "2147483648 = 1": api.ErrRange,
		"x[2147483648]": api.ErrRange, "x[2147483647 + 2147483648]": api.ErrRange, "to_int(2147483648)": api.ErrRange, "to_dint(- 2147483648)": api.ErrRange,
	} {
		if k, e := typeIs(t, vars, parts(text)); k != 0 || e != want {
			t.Errorf("Type of %s = %d, %d, want %d", text, k, e, want)
		}
	}
}

// 9.2, R1: which comes first
func TestFirstWrongPartTells(t *testing.T) {
	for text, want := range map[string]api.Errno{
		"nobody + x": api.ErrName, "x + nobody": api.ErrKind, "x[b] + nobody": api.ErrType, "nobody + x[b]": api.ErrName, "(n + 40000) + nobody": api.ErrRange, "(n + d) + t": api.ErrType, "(n + 40000) + (n + d)": api.ErrRange, "(n + d) + (n + 40000)": api.ErrType,
		"2147483648 + nobody": api.ErrName, "(1 + 2147483648) + x": api.ErrKind, "2147483648 + b": api.ErrType, "2147483648 < nobody": api.ErrName, "n + 40000 + nobody": api.ErrRange, "40000 + (n + nobody)": api.ErrName,
		"nobody[b]": api.ErrName, "nobody[2147483648]": api.ErrName, "n[b]": api.ErrKind, "n[2147483648]": api.ErrKind, "t[e]": api.ErrKind, "nobody[x]": api.ErrKind, "x[nobody]": api.ErrName, "nobody[b + 1]": api.ErrType, "nobody[n + 40000]": api.ErrRange, "n[nobody[t]]": api.ErrKind,
		"nobody.nobody": api.ErrName, "x[b] < 2147483648": api.ErrType, "(2147483648 + 1) and b": api.ErrType, "to_int(n + b) + nobody": api.ErrType, "to_int(b) + nobody": api.ErrType,
	} {
		if k, e := typeIs(t, vars, parts(text)); k != 0 || e != want {
			t.Errorf("Type of %s = %d, %d, want %d", text, k, e, want)
		}
	}
}

func number(n int64) api.Part { return api.Part{Kind: api.PNum, N: n} }

func op(n int64) api.Part { return api.Part{Kind: api.POp, N: n} }

func variable(s string) api.Part { return api.Part{Kind: api.PVar, S: s} }

func index(s string) api.Part { return api.Part{Kind: api.PIndex, S: s} }

func field(s, f string) api.Part { return api.Part{Kind: api.PField, S: s, F: f} }

func to(t int) api.Part { return api.Part{Kind: api.PTo, T: t} }

// edges are numbers of no type at the edges of TInt and TDint, with those beyond them that may be.
var edges = []int64{0, 1, -1, 32766, 32767, 32768, -32767, -32768, -32769, 65535, 65536, 1<<31 - 2, 1<<31 - 1, 1 << 31, -1<<31 + 1, -1 << 31}

// 9.2: numbers of no type at the edges, alone and beside others
func TestNumbersAtTheEdges(t *testing.T) {
	ok := func(t int, n int64) api.Errno {
		if refHolds(t, n) {
			return api.OK
		}
		return api.ErrRange
	}
	for _, n := range edges {
		inTInt, inTDint := ok(api.TInt, n), ok(api.TDint, n)
		for i, c := range []struct {
			x    []api.Part
			want int
			e    api.Errno
		}{
			{[]api.Part{number(n)}, 0, inTDint},
			{[]api.Part{number(n), op(api.NNeg)}, 0, inTDint},
			{[]api.Part{number(n), number(1), op(api.NAdd)}, 0, inTDint},
			{[]api.Part{number(1), number(n), op(api.NAdd)}, 0, inTDint},
			{[]api.Part{number(n), variable("N"), op(api.NAdd)}, api.TInt, inTInt},
			{[]api.Part{variable("N"), number(n), op(api.NNot), op(api.NAnd)}, api.TInt, inTInt},
			{[]api.Part{number(n), variable("D"), op(api.NMul)}, api.TDint, inTDint},
			{[]api.Part{variable("D"), number(n), number(0), op(api.NDiv), op(api.NMod)}, api.TDint, inTDint},
			{[]api.Part{variable("N"), number(0), number(n), op(api.NSub), op(api.NLt)}, api.TBool, inTInt},
			{[]api.Part{number(n), number(1), op(api.NLe)}, api.TBool, inTDint},
			{[]api.Part{number(1), number(n), op(api.NEq)}, api.TBool, inTDint},
			{[]api.Part{number(n), index("X")}, api.TInt, inTDint},
			{[]api.Part{number(n), index("X"), variable("N"), op(api.NAdd)}, api.TInt, inTDint},
			{[]api.Part{number(n), index("XB")}, api.TBool, inTDint},
			{[]api.Part{number(n), to(api.TInt)}, api.TInt, inTDint},
			{[]api.Part{number(n), to(api.TTime), variable("E"), op(api.NAdd)}, api.TTime, inTDint},
			{[]api.Part{variable("N"), number(n), to(api.TInt), op(api.NAdd)}, api.TInt, inTDint},
			{[]api.Part{number(n), index("X"), number(5), op(api.NGe)}, api.TBool, inTDint},
			{[]api.Part{variable("E"), number(n), op(api.NAdd)}, 0, api.ErrType},
			{[]api.Part{number(n), variable("B"), op(api.NAnd)}, 0, api.ErrType},
		} {
			want := c.want
			if c.e != api.OK {
				want = 0
			}
			if k, e := typeIs(t, vars, c.x); k != want || e != c.e {
				t.Errorf("%d: Type of %s = %d, %d, want %d, %d", i, shown(c.x), k, e, want, c.e)
			}
		}
	}
}

// 9.2: Fits at each type
func TestFits(t *testing.T) {
	for _, c := range []struct {
		text string
		want [7]api.Errno // at 0 to 6
	}{
		{"b", [7]api.Errno{40, 0, 40, 40, 40, 40, 40}},
		{"n", [7]api.Errno{40, 40, 0, 40, 40, 40, 40}},
		{"d", [7]api.Errno{40, 40, 40, 0, 40, 40, 40}},
		{"e", [7]api.Errno{40, 40, 40, 40, 0, 40, 40}},
		{"0", [7]api.Errno{40, 40, 0, 0, 40, 40, 40}},
		{"1 + 32767", [7]api.Errno{40, 40, 0, 0, 40, 40, 40}},
		{"1 - 32768", [7]api.Errno{40, 40, 1, 0, 40, 40, 40}},
		{"32768 - 1", [7]api.Errno{40, 40, 1, 0, 40, 40, 40}},
		{"- 2147483647", [7]api.Errno{40, 40, 1, 0, 40, 40, 40}},
		{"2147483648", [7]api.Errno{1, 1, 1, 1, 1, 1, 1}},
		{"nobody", [7]api.Errno{90, 90, 90, 90, 90, 90, 90}},
		{"x", [7]api.Errno{91, 91, 91, 91, 91, 91, 91}},
		{"n + d", [7]api.Errno{40, 40, 40, 40, 40, 40, 40}},
		{"n + 40000", [7]api.Errno{1, 1, 1, 1, 1, 1, 1}},
		{"n + 1", [7]api.Errno{40, 40, 0, 40, 40, 40, 40}},
		{"x[70000]", [7]api.Errno{40, 40, 0, 40, 40, 40, 40}},
		{"1 < 70000", [7]api.Errno{40, 0, 40, 40, 40, 40, 40}},
	} {
		for y, want := range c.want {
			if got := typed.Fits(vars, parts(c.text), y); got != want {
				t.Errorf("Fits of %s and %d = %d, want %d", c.text, y, got, want)
			}
		}
		for _, y := range []int{-1, 100, 101, 1<<32 + 2, math.MaxInt, math.MinInt} {
			want := c.want[6]
			if got := typed.Fits(vars, parts(c.text), y); got != want {
				t.Errorf("Fits of %s and %d = %d, want %d", c.text, y, got, want)
			}
		}
	}
}

// 9.2: each operation of each type, of two, of one, and of none yet
func TestOperationsOfEachType(t *testing.T) {
	operands := map[int]api.Part{api.TBool: variable("B"), api.TInt: variable("N"), api.TDint: variable("D"), api.TTime: variable("E"), 0: number(5)}
	for o, types := range refOps {
		for left, a := range operands {
			for right, b := range operands {
				x := []api.Part{a, b, op(o)}
				if o >= api.NNeg {
					x, right = []api.Part{a, op(o)}, left
				}
				both, taken := max(left, right), left == right || left+right == max(left, right) && (left+right == api.TInt || left+right == api.TDint)
				want, e := both, api.OK
				if refCompares(o) {
					want = api.TBool
				}
				if !taken || !slices.Contains(types, both) && both != 0 {
					want, e = 0, api.ErrType
				}
				if k, got := typeIs(t, vars, x); k != want || got != e {
					t.Errorf("Type of %s = %d, %d, want %d, %d", shown(x), k, got, want, e)
				}
			}
		}
	}
}

// 9.2: what chapter 6 refuses
func TestPartsThatMayNotBe(t *testing.T) {
	for i, c := range []struct {
		x []api.Part
		e api.Errno
	}{
		{nil, api.ErrExpr}, {[]api.Part{}, api.ErrExpr},
		{make([]api.Part, 500), api.ErrExpr}, {make([]api.Part, 501), api.ErrLong}, {make([]api.Part, 1<<20), api.ErrLong},
		{[]api.Part{{}}, api.ErrExpr}, {[]api.Part{{Kind: 7}}, api.ErrExpr}, {[]api.Part{{Kind: -1}}, api.ErrExpr},
		{[]api.Part{op(api.NAdd)}, api.ErrExpr}, {[]api.Part{op(api.NNot)}, api.ErrExpr}, {[]api.Part{number(1), op(api.NAdd)}, api.ErrExpr}, {[]api.Part{index("X")}, api.ErrExpr}, {[]api.Part{to(api.TInt)}, api.ErrExpr},
		{[]api.Part{number(1), number(2)}, api.ErrExpr}, {[]api.Part{variable("NOBODY"), number(2)}, api.ErrExpr},
		{[]api.Part{number(1), number(2), op(0)}, api.ErrExpr}, {[]api.Part{number(1), number(2), op(17)}, api.ErrExpr}, {[]api.Part{number(1), op(17)}, api.ErrExpr}, {[]api.Part{number(1), number(2), op(-1)}, api.ErrExpr}, {[]api.Part{number(1), number(2), op(1<<32 + 1)}, api.ErrExpr},
		{[]api.Part{number(1), to(api.TBool)}, api.ErrExpr}, {[]api.Part{number(1), to(0)}, api.ErrExpr}, {[]api.Part{number(1), to(5)}, api.ErrExpr},
		{[]api.Part{variable("")}, api.ErrExpr}, {[]api.Part{variable("n")}, api.ErrExpr}, {[]api.Part{variable("IF")}, api.ErrExpr}, {[]api.Part{field("T", "")}, api.ErrExpr}, {[]api.Part{field("T", "q")}, api.ErrExpr},
		{[]api.Part{{Kind: api.PNum, N: 1<<31 + 1}}, api.ErrExpr}, {[]api.Part{{Kind: api.PNum, N: -1<<31 - 1}}, api.ErrExpr}, {[]api.Part{{Kind: api.PNum, N: 32768, T: api.TInt}}, api.ErrExpr}, {[]api.Part{{Kind: api.PNum, N: 2, T: api.TBool}}, api.ErrExpr}, {[]api.Part{{Kind: api.PNum, T: 5}}, api.ErrExpr},
		{[]api.Part{{Kind: api.PVar, S: "N", N: 1}}, api.ErrExpr}, {[]api.Part{{Kind: api.PNum, S: "N"}}, api.ErrExpr},
		{append([]api.Part{number(1)}, slices.Repeat([]api.Part{op(api.NNeg)}, 24)...), api.ErrExpr},
	} {
		if k, e := typed.Type(vars, c.x); k != 0 || e != c.e {
			t.Errorf("%d: Type = %d, %d, want %d", i, k, e, c.e)
		}
		for y := -1; y < 7; y++ {
			if e := typed.Fits(vars, c.x, y); e != c.e {
				t.Errorf("%d: Fits = %d, want %d", i, e, c.e)
			}
		}
	}
	if k, e := typed.Type(vars, append([]api.Part{number(1)}, slices.Repeat([]api.Part{op(api.NNeg)}, 23)...)); k != 0 || e != api.OK {
		t.Error(k, e)
	}
	spare := []api.Part{variable("N"), variable("NOBODY")}
	if k, e := typed.Type(vars, spare[:1]); k != api.TInt || e != api.OK {
		t.Error("what lies behind the length is read", k, e)
	}
}

// 9.2: an expression as long as it can be
func TestLongExpressions(t *testing.T) {
	// balanced answers 2*n - 1 parts, no deeper than they need be
	var balanced func(n int, leaf api.Part) []api.Part
	balanced = func(n int, leaf api.Part) []api.Part {
		if n == 1 {
			return []api.Part{leaf}
		}
		return append(append(balanced(n/2, leaf), balanced(n-n/2, leaf)...), op(api.NAdd))
	}
	for _, c := range []struct {
		leaf api.Part
		want int
	}{{number(7), 0}, {variable("N"), api.TInt}, {field("Q", "CV"), api.TDint}, {variable("E"), api.TTime}} {
		x := balanced(250, c.leaf)
		if k, e := typeIs(t, vars, x); len(x) != 499 || k != c.want || e != api.OK {
			t.Error(len(x), k, e)
		}
		if k, e := typeIs(t, vars, append(x, op(api.NNeg))); k != c.want || e != api.OK {
			t.Error(k, e)
		}
	}
	for i := range 250 {
		x := balanced(250, number(5))
		n := 0
		for k := range x {
			if x[k].Kind != api.PNum {
				continue
			}
			if n == i {
				x[k].N = 32768
			}
			n++
		}
		if e := typed.Fits(vars, x, api.TInt); e != api.ErrRange {
			t.Error(i, e)
		}
		if e := typed.Fits(vars, x, api.TDint); e != api.OK {
			t.Error(i, e)
		}
	}
}

// leaves are parts that work on nothing: some right, some wrong.
func leaves() []api.Part {
	l := []api.Part{
		variable("I"), variable("B"), variable("N"), variable("D"), variable("E"), variable("X"), variable("T"), variable("NOBODY"),
		field("T", "Q"), field("T", "ET"), field("C", "CV"), field("Q", "CV"), field("T", "CV"), field("N", "Q"), field("X", "Q"), field("NOBODY", "Q"),
		{Kind: api.PNum, N: 1, T: api.TBool}, {Kind: api.PNum, N: -5, T: api.TInt}, {Kind: api.PNum, N: 5, T: api.TDint}, {Kind: api.PNum, N: 5, T: api.TTime},
	}
	for _, n := range []int64{0, 32767, 32768, -32768, -32769, 1<<31 - 1, 1 << 31, -1 << 31} {
		l = append(l, number(n))
	}
	return l
}

// uppers are parts that work on one value.
func uppers() []api.Part {
	return []api.Part{op(api.NNeg), op(api.NNot), to(api.TInt), to(api.TDint), to(api.TTime), index("XB"), index("X"), index("XD"), index("XT"), index("N"), index("T"), index("NOBODY")}
}

// 9.2: all expressions of one and two leaves, with a part of one value here and there
func TestAllShortExpressions(t *testing.T) {
	n := 0
	ask := func(x ...api.Part) {
		n++
		typeIs(t, vars, x)
	}
	for _, a := range leaves() {
		ask(a)
		for _, u := range uppers() {
			ask(a, u)
			for _, w := range uppers() {
				ask(a, u, w)
			}
		}
		for _, b := range leaves() {
			for o := int64(api.NAdd); o <= api.NGe; o++ {
				ask(a, b, op(o))
			}
			for _, o := range []int64{api.NAdd, api.NMul, api.NOr, api.NEq, api.NLt} {
				for _, u := range uppers() {
					ask(a, b, op(o), u)
					ask(a, u, b, op(o))
					ask(a, b, u, op(o))
				}
			}
		}
	}
	if n < 100000 {
		t.Error(n)
	}
}

// randomExpr answers an expression, right ones mostly if the leaves are.
func randomExpr(r *rand.Rand, from []api.Part, depth int) []api.Part {
	if depth == 0 || r.Intn(4) == 0 {
		return []api.Part{from[r.Intn(len(from))]}
	}
	if r.Intn(5) == 0 {
		u := uppers()
		return append(randomExpr(r, from, depth-1), u[r.Intn(len(u))])
	}
	x := append(randomExpr(r, from, depth-1), randomExpr(r, from, depth-1)...)
	return append(x, op(1+r.Int63n(14)))
}

// 9.2: random expressions, of leaves that go together and of all
func TestRandomExpressions(t *testing.T) {
	r := rand.New(rand.NewSource(92))
	told := map[api.Errno]int{}
	sets := [][]api.Part{
		leaves(),
		{number(1), number(2), number(32768)}, {number(1), number(1 << 31), number(-32769)},
		{variable("N"), number(1), number(32767)}, {variable("N"), number(3), number(32768)}, {variable("D"), number(40000), field("Q", "CV")},
		{variable("B"), field("T", "Q"), {Kind: api.PNum, N: 1, T: api.TBool}}, {variable("E"), field("T", "ET")},
	}
	for i := range 60000 {
		x := randomExpr(r, sets[i%len(sets)], 1+r.Intn(5))
		if expr.Check(x) != api.OK {
			t.Fatal(shown(x))
		}
		_, e := typeIs(t, vars, x)
		told[e]++
	}
	for _, e := range []api.Errno{api.OK, api.ErrName, api.ErrKind, api.ErrType, api.ErrRange} {
		if told[e] < 500 {
			t.Errorf("%d told %d times", e, told[e])
		}
	}
}

// P1, R5: lists of any parts end, and errors stand alone
func TestAnyParts(t *testing.T) {
	r := rand.New(rand.NewSource(93))
	some := append(append(leaves(), uppers()...), api.Part{}, api.Part{Kind: 9}, op(17), op(-1), op(math.MaxInt64), number(1<<31+1), api.Part{Kind: api.PNum, T: 5}, api.Part{Kind: api.PVar, S: "n"})
	odd := oddVars()
	for range 60000 {
		var x []api.Part
		for range r.Intn(9) {
			p := some[r.Intn(len(some))]
			if r.Intn(2) == 0 {
				p = op(r.Int63n(18))
			}
			x = append(x, p)
		}
		l := vars
		if r.Intn(10) == 0 {
			l = append(slices.Clone(vars), odd[r.Intn(len(odd))])
		}
		k, e := typed.Type(l, x)
		if e != api.OK && k != 0 || len(l) > len(vars) && e != api.ErrDecl {
			t.Fatal(shown(x), k, e)
		}
		if want := expr.Check(x); len(l) == len(vars) && want != api.OK && e != want {
			t.Fatal(shown(x), k, e, want)
		}
		if again, e2 := typed.Type(l, x); again != k || e2 != e {
			t.Fatal("R7", shown(x))
		}
		if got := typed.Fits(l, x, k); e != api.OK && got != e || e == api.OK && k != 0 && got != api.OK {
			t.Fatal(shown(x), k, e, got)
		}
	}
}

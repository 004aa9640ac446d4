package fold_test

import (
	"fmt"
	"math"
	"slices"
	"strings"
	"testing"
	"unsafe"

	"capstan/api"
	"capstan/decl"
	"capstan/expr"
	"capstan/fold"
	"capstan/lex"
	"capstan/typed"
)

var vars = variables(`b : bool; n : int := 3; d : dint := -70000; e : time := t#5s;
	xb : array[0..1] of bool; x : array[0..3] of int; xd : array[0..0] of dint; xt : array[0..31] of time;
	t : ton; c : ctu; q : quad;`)

// variables answers those that a program with these declarations has.
func variables(text string) []api.Var {
	p, f := decl.Parse("program p var " + text + " end_var end_program")
	if f != (api.Fault{}) {
		panic(fmt.Sprint(text, f))
	}
	return p.Vars
}

// parts answers the parts of an expression's text.
func parts(text string) []api.Part {
	l, f := lex.Tokens(text)
	x, next, g := expr.Parse(l, 0)
	if f != (api.Fault{}) || g != (api.Fault{}) || next != len(l)-1 {
		panic(fmt.Sprint(text, f, g))
	}
	return x
}

// text answers parts as a text, with the types of their numbers.
func text(x []api.Part) string {
	l, e := expr.Tokens(x)
	s, e2 := lex.Show(append(l, api.Token{Kind: api.KEnd}))
	if e != api.OK || e2 != api.OK {
		return fmt.Sprintf("%+v", x)
	}
	return s
}

func number(n int64) api.Part { return api.Part{Kind: api.PNum, N: n} }

func of(t int, n int64) api.Part { return api.Part{Kind: api.PNum, N: n, T: t} }

func op(n int64) api.Part { return api.Part{Kind: api.POp, N: n} }

func variable(s string) api.Part { return api.Part{Kind: api.PVar, S: s} }

func index(s string) api.Part { return api.Part{Kind: api.PIndex, S: s} }

func field(s, f string) api.Part { return api.Part{Kind: api.PField, S: s, F: f} }

func to(t int) api.Part { return api.Part{Kind: api.PTo, T: t} }

// hasZeroDivision answers whether a division or a remainder by the number 0 is among the parts.
func hasZeroDivision(x []api.Part) bool {
	for i, p := range x {
		if p.Kind == api.POp && (p.N == api.NDiv || p.N == api.NMod) && x[i-1].Kind == api.PNum && x[i-1].N == 0 {
			return true
		}
	}
	return false
}

// holds fails the test unless all calls answer of x and t as the promises say: refused as Fits does, or as the reference has it, and once more the same.
func holds(t *testing.T, l []api.Var, x []api.Part, y int) api.Errno {
	t.Helper()
	want := typed.Fits(l, x, y)
	resolved, e := fold.Resolve(l, x, y)
	folded, e2 := fold.Fold(l, x, y)
	if e != want || e2 != want {
		t.Errorf("%s for %d: Resolve refuses %d, Fold %d, want %d", text(x), y, e, e2, want)
	}
	if want != api.OK {
		if len(resolved) != 0 || len(folded) != 0 {
			t.Errorf("%s for %d: %v, %v beside an error", text(x), y, resolved, folded)
		}
		valueHolds(t, x, y, nil, want)
		return want
	}
	wantResolved, wantFolded := refBoth(l, x, y)
	if !slices.Equal(resolved, wantResolved) {
		t.Errorf("%s for %d resolved: %s, want %s", text(x), y, text(resolved), text(wantResolved))
	}
	if !slices.Equal(folded, wantFolded) {
		t.Errorf("%s for %d folded: %s, want %s", text(x), y, text(folded), text(wantFolded))
	}
	followsHolds(t, l, x, y, resolved, folded)
	valueHolds(t, x, y, folded, want)
	return want
}

// followsHolds fails the test unless 10.3 holds of what x is resolved and folded to.
func followsHolds(t *testing.T, l []api.Var, x []api.Part, y int, resolved, folded []api.Part) {
	t.Helper()
	for _, r := range [][]api.Part{resolved, folded} {
		if k, e := typed.Type(l, r); k != y || e != api.OK {
			t.Errorf("%s for %d: type of %s = %d, %d", text(x), y, text(r), k, e)
		}
		if again, e := fold.Resolve(l, r, y); e != api.OK || !slices.Equal(again, r) {
			t.Errorf("%s for %d: %s resolved again: %s, %d", text(x), y, text(r), text(again), e)
		}
		if again, e := fold.Fold(l, r, y); e != api.OK || !slices.Equal(again, folded) {
			t.Errorf("%s for %d: %s folded again: %s, %d", text(x), y, text(r), text(again), e)
		}
		if slices.ContainsFunc(r, func(p api.Part) bool { return p.Kind == api.PNum && p.T == 0 }) {
			t.Errorf("%s for %d: %s has a number without a type", text(x), y, text(r))
		}
	}
	names, _ := expr.Names(x)
	if len(resolved) != len(x) || len(folded) > len(x) || len(names) == 0 && !hasZeroDivision(folded) && (len(folded) != 1 || folded[0].Kind != api.PNum) {
		t.Errorf("%s for %d: resolved %s, folded %s", text(x), y, text(resolved), text(folded))
	}
}

// valueHolds fails the test unless Value answers of x, which Fits refuses among the tests' variables with this error, as 10.2 says.
func valueHolds(t *testing.T, x []api.Part, y int, folded []api.Part, refused api.Errno) {
	t.Helper()
	var want int64
	wantE := expr.Check(x)
	named := slices.ContainsFunc(x, func(p api.Part) bool { return p.S != "" })
	switch {
	case wantE != api.OK:
	case named:
		wantE = api.ErrName
	case refused != api.OK:
		wantE = typed.Fits(nil, x, y)
	case hasZeroDivision(folded):
		wantE = api.ErrZero
	default:
		want = folded[0].N
	}
	if n, e := fold.Value(x, y); n != want || e != wantE {
		t.Errorf("Value of %s for %d = %d, %d, want %d, %d", text(x), y, n, e, want, wantE)
	}
}

// 10.1: expressions written out, apart from the reference
func TestResolveAndFold(t *testing.T) {
	for _, c := range []struct {
		x                string
		t                int
		resolved, folded string
	}{
		// numbers alone
		{"5", api.TInt, "INT#5", "INT#5"}, {"5", api.TDint, "DINT#5", "DINT#5"}, {"32767", api.TInt, "INT#32767", "INT#32767"}, {"2147483647", api.TDint, "DINT#2147483647", "DINT#2147483647"},
		{"true", api.TBool, "TRUE", "TRUE"}, {"false", api.TBool, "FALSE", "FALSE"}, {"int#5", api.TInt, "INT#5", "INT#5"}, {"dint#5", api.TDint, "DINT#5", "DINT#5"}, {"t#5s", api.TTime, "T#5000ms", "T#5000ms"},
		// names alone
		{"n", api.TInt, "N", "N"}, {"b", api.TBool, "B", "B"}, {"t.q", api.TBool, "T . Q", "T . Q"}, {"x[n]", api.TInt, "X [ N ]", "X [ N ]"}, {"q.cv", api.TDint, "Q . CV", "Q . CV"},
		// an index
		{"x[1]", api.TInt, "X [ INT#1 ]", "X [ INT#1 ]"}, {"xd[1]", api.TDint, "XD [ INT#1 ]", "XD [ INT#1 ]"}, {"xb[1]", api.TBool, "XB [ INT#1 ]", "XB [ INT#1 ]"}, {"xt[1]", api.TTime, "XT [ INT#1 ]", "XT [ INT#1 ]"},
		{"x[32767]", api.TInt, "X [ INT#32767 ]", "X [ INT#32767 ]"}, {"x[32768]", api.TInt, "X [ DINT#32768 ]", "X [ DINT#32768 ]"}, {"x[- 32768]", api.TInt, "X [ - DINT#32768 ]", "X [ DINT#-32768 ]"},
		{"x[32767 + 1]", api.TInt, "X [ INT#32767 + INT#1 ]", "X [ INT#-32768 ]"}, {"x[32768 - 1]", api.TInt, "X [ DINT#32768 - DINT#1 ]", "X [ DINT#32767 ]"}, {"x[1 - 32768]", api.TInt, "X [ DINT#1 - DINT#32768 ]", "X [ DINT#-32767 ]"},
		{"x[1 * (2 + (3 - 70000))]", api.TInt, "X [ DINT#1 * ( DINT#2 + ( DINT#3 - DINT#70000 ) ) ]", "X [ DINT#-69995 ]"},
		{"x[n + 1]", api.TInt, "X [ N + INT#1 ]", "X [ N + INT#1 ]"}, {"x[d + 1]", api.TInt, "X [ D + DINT#1 ]", "X [ D + DINT#1 ]"}, {"x[dint#1 + 2]", api.TInt, "X [ DINT#1 + DINT#2 ]", "X [ DINT#3 ]"}, {"x[int#1]", api.TInt, "X [ INT#1 ]", "X [ INT#1 ]"},
		{"x[to_dint(1) + 2]", api.TInt, "X [ TO_DINT ( DINT#1 ) + DINT#2 ]", "X [ DINT#3 ]"},
		// an index within an index
		{"x[x[1 + 1]]", api.TInt, "X [ X [ INT#1 + INT#1 ] ]", "X [ X [ INT#2 ] ]"}, {"x[x[70000] + 1]", api.TInt, "X [ X [ DINT#70000 ] + INT#1 ]", "X [ X [ DINT#70000 ] + INT#1 ]"}, {"x[xd[1] + 70000 * 2]", api.TInt, "X [ XD [ INT#1 ] + ( DINT#70000 * DINT#2 ) ]", "X [ XD [ INT#1 ] + DINT#140000 ]"},
		{"xd[x[xd[70000]]] + 1", api.TDint, "XD [ X [ XD [ DINT#70000 ] ] ] + DINT#1", "XD [ X [ XD [ DINT#70000 ] ] ] + DINT#1"},
		// what is converted
		{"to_int(1)", api.TInt, "TO_INT ( DINT#1 )", "INT#1"}, {"to_dint(1)", api.TDint, "TO_DINT ( DINT#1 )", "DINT#1"}, {"to_time(1)", api.TTime, "TO_TIME ( DINT#1 )", "T#1ms"}, {"to_int(70000)", api.TInt, "TO_INT ( DINT#70000 )", "INT#4464"}, {"to_int(32767 + 1)", api.TInt, "TO_INT ( DINT#32767 + DINT#1 )", "INT#-32768"}, {"to_int(int#32767 + 1)", api.TInt, "TO_INT ( INT#32767 + INT#1 )", "INT#-32768"},
		{"to_int(t#70s)", api.TInt, "TO_INT ( T#70000ms )", "INT#4464"}, {"to_int(n + 1)", api.TInt, "TO_INT ( N + INT#1 )", "TO_INT ( N + INT#1 )"}, {"to_int(d + 1)", api.TInt, "TO_INT ( D + DINT#1 )", "TO_INT ( D + DINT#1 )"},
		// a conversion within a conversion
		{"to_dint(to_int(70000))", api.TDint, "TO_DINT ( TO_INT ( DINT#70000 ) )", "DINT#4464"}, {"to_time(to_int(70000) - 1)", api.TTime, "TO_TIME ( TO_INT ( DINT#70000 ) - INT#1 )", "T#4463ms"}, {"to_int(to_time(to_dint(5)))", api.TInt, "TO_INT ( TO_TIME ( TO_DINT ( DINT#5 ) ) )", "INT#5"}, {"to_int(to_dint(n) + 2 * 3)", api.TInt, "TO_INT ( TO_DINT ( N ) + ( DINT#2 * DINT#3 ) )", "TO_INT ( TO_DINT ( N ) + DINT#6 )"},
		// comparisons
		{"1 = 2", api.TBool, "DINT#1 = DINT#2", "FALSE"}, {"70000 > 1", api.TBool, "DINT#70000 > DINT#1", "TRUE"}, {"32767 + 1 > 0", api.TBool, "( DINT#32767 + DINT#1 ) > DINT#0", "TRUE"}, {"int#32767 + 1 > 0", api.TBool, "( INT#32767 + INT#1 ) > INT#0", "FALSE"}, {"n < 5", api.TBool, "N < INT#5", "N < INT#5"}, {"5 <= d", api.TBool, "DINT#5 <= D", "DINT#5 <= D"}, {"n = x[0]", api.TBool, "N = X [ INT#0 ]", "N = X [ INT#0 ]"}, {"e >= t#1s", api.TBool, "E >= T#1000ms", "E >= T#1000ms"},
		{"(1 < 2) = (3 < 4)", api.TBool, "( DINT#1 < DINT#2 ) = ( DINT#3 < DINT#4 )", "TRUE"}, {"(1 < 2) <> b", api.TBool, "( DINT#1 < DINT#2 ) <> B", "TRUE <> B"}, {"t#1s <> t#2s", api.TBool, "T#1000ms <> T#2000ms", "TRUE"},
		// operations of none yet
		{"32767 + 1", api.TInt, "INT#32767 + INT#1", "INT#-32768"}, {"32767 + 1", api.TDint, "DINT#32767 + DINT#1", "DINT#32768"}, {"1 + 2 * 3 - 4", api.TInt, "( INT#1 + ( INT#2 * INT#3 ) ) - INT#4", "INT#3"}, {"(7 and 5) or 8 xor 1", api.TDint, "( DINT#7 AND DINT#5 ) OR ( DINT#8 XOR DINT#1 )", "DINT#13"}, {"300 * 300 / 300", api.TInt, "( INT#300 * INT#300 ) / INT#300", "INT#81"}, {"300 * 300 / 300", api.TDint, "( DINT#300 * DINT#300 ) / DINT#300", "DINT#300"}, {"- 7 mod 2", api.TInt, "( - INT#7 ) MOD INT#2", "INT#-1"},
		{"not 5", api.TInt, "NOT INT#5", "INT#-6"}, {"- - 5", api.TDint, "- ( - DINT#5 )", "DINT#5"}, {"not - 32767", api.TInt, "NOT ( - INT#32767 )", "INT#32766"}, {"- - t#5s", api.TTime, "- ( - T#5000ms )", "T#5000ms"}, {"not true", api.TBool, "NOT TRUE", "FALSE"}, {"- n", api.TInt, "- N", "- N"}, {"not (1 < 2)", api.TBool, "NOT ( DINT#1 < DINT#2 )", "FALSE"},
		// beside something that has a type
		{"n + (1 + 2)", api.TInt, "N + ( INT#1 + INT#2 )", "N + INT#3"}, {"(1 + 2) * (3 - n)", api.TInt, "( INT#1 + INT#2 ) * ( INT#3 - N )", "INT#3 * ( INT#3 - N )"}, {"d + (32767 + 1)", api.TDint, "D + ( DINT#32767 + DINT#1 )", "D + DINT#32768"}, {"n + (32767 + 1)", api.TInt, "N + ( INT#32767 + INT#1 )", "N + INT#-32768"}, {"1 + int#2", api.TInt, "INT#1 + INT#2", "INT#3"}, {"dint#2 * - (3 + 4)", api.TDint, "DINT#2 * ( - ( DINT#3 + DINT#4 ) )", "DINT#-14"}, {"1 + 2 < n", api.TBool, "( INT#1 + INT#2 ) < N", "INT#3 < N"}, {"c.cv + 1", api.TInt, "C . CV + INT#1", "C . CV + INT#1"}, {"1 + q.cv", api.TDint, "DINT#1 + Q . CV", "DINT#1 + Q . CV"}, {"t.et + to_time(1 + 2)", api.TTime, "T . ET + TO_TIME ( DINT#1 + DINT#2 )", "T . ET + T#3ms"},
		{"n + x[70000] + to_int(70000) + 1", api.TInt, "( ( N + X [ DINT#70000 ] ) + TO_INT ( DINT#70000 ) ) + INT#1", "( ( N + X [ DINT#70000 ] ) + INT#4464 ) + INT#1"},
		// numbers that can't be brought together
		{"n + 1 + 2", api.TInt, "( N + INT#1 ) + INT#2", "( N + INT#1 ) + INT#2"}, {"1 + 2 + n", api.TInt, "( INT#1 + INT#2 ) + N", "INT#3 + N"}, {"n * 0", api.TInt, "N * INT#0", "N * INT#0"}, {"n - n", api.TInt, "N - N", "N - N"}, {"b and false", api.TBool, "B AND FALSE", "B AND FALSE"}, {"- n + (2 - 3)", api.TInt, "( - N ) + ( INT#2 - INT#3 )", "( - N ) + INT#-1"}, {"0 / n", api.TInt, "INT#0 / N", "INT#0 / N"},
		// divisions by 0
		{"7 / 0", api.TInt, "INT#7 / INT#0", "INT#7 / INT#0"}, {"7 mod 0", api.TDint, "DINT#7 MOD DINT#0", "DINT#7 MOD DINT#0"}, {"0 / 0", api.TInt, "INT#0 / INT#0", "INT#0 / INT#0"}, {"(3 + 4) / (2 - 2)", api.TInt, "( INT#3 + INT#4 ) / ( INT#2 - INT#2 )", "INT#7 / INT#0"}, {"1 + 2 + 7 / 0 + (3 + 4)", api.TInt, "( ( INT#1 + INT#2 ) + ( INT#7 / INT#0 ) ) + ( INT#3 + INT#4 )", "( INT#3 + ( INT#7 / INT#0 ) ) + INT#7"}, {"- (7 / 0)", api.TInt, "- ( INT#7 / INT#0 )", "- ( INT#7 / INT#0 )"}, {"7 / 0 < 1 + 1", api.TBool, "( DINT#7 / DINT#0 ) < ( DINT#1 + DINT#1 )", "( DINT#7 / DINT#0 ) < DINT#2"},
		{"n / 0", api.TInt, "N / INT#0", "N / INT#0"}, {"n + 7 / 0", api.TInt, "N + ( INT#7 / INT#0 )", "N + ( INT#7 / INT#0 )"}, {"d mod (1 - 1)", api.TDint, "D MOD ( DINT#1 - DINT#1 )", "D MOD DINT#0"}, {"to_int(7 / 0)", api.TInt, "TO_INT ( DINT#7 / DINT#0 )", "TO_INT ( DINT#7 / DINT#0 )"}, {"to_dint(to_int(7 mod 0)) + 1", api.TDint, "TO_DINT ( TO_INT ( DINT#7 MOD DINT#0 ) ) + DINT#1", "TO_DINT ( TO_INT ( DINT#7 MOD DINT#0 ) ) + DINT#1"}, {"x[7 / 0 + 1]", api.TInt, "X [ ( INT#7 / INT#0 ) + INT#1 ]", "X [ ( INT#7 / INT#0 ) + INT#1 ]"}, {"7 / (65536 * 65536)", api.TDint, "DINT#7 / ( DINT#65536 * DINT#65536 )", "DINT#7 / DINT#0"}, {"7 / (0 / 0)", api.TInt, "INT#7 / ( INT#0 / INT#0 )", "INT#7 / ( INT#0 / INT#0 )"}, {"0 / 7", api.TInt, "INT#0 / INT#7", "INT#0"},
	} {
		x := parts(c.x)
		if y, e := fold.Resolve(vars, x, c.t); e != api.OK || text(y) != c.resolved {
			t.Errorf("%s for %d resolved: %s, %d, want %s", c.x, c.t, text(y), e, c.resolved)
		}
		if y, e := fold.Fold(vars, x, c.t); e != api.OK || text(y) != c.folded {
			t.Errorf("%s for %d folded: %s, %d, want %s", c.x, c.t, text(y), e, c.folded)
		}
		for y := range 6 {
			holds(t, vars, x, y)
		}
	}
}

// 10.1: the parts themselves, field by field
func TestPartsOfAnswers(t *testing.T) {
	x := []api.Part{variable("N"), number(1), number(-2), op(api.NMul), op(api.NAdd), number(-32769), index("X"), op(api.NSub)}
	resolved, e := fold.Resolve(vars, x, api.TInt)
	if want := []api.Part{variable("N"), of(api.TInt, 1), of(api.TInt, -2), op(api.NMul), op(api.NAdd), of(api.TDint, -32769), index("X"), op(api.NSub)}; e != api.OK || !slices.Equal(resolved, want) {
		t.Error(resolved, e)
	}
	folded, e := fold.Fold(vars, x, api.TInt)
	if want := []api.Part{variable("N"), of(api.TInt, -2), op(api.NAdd), of(api.TDint, -32769), index("X"), op(api.NSub)}; e != api.OK || !slices.Equal(folded, want) {
		t.Error(folded, e)
	}
	// times below 0 have no text
	for s, want := range map[string]int64{"to_time(2147483647 + 1)": -1 << 31, "to_time(to_int(40000) - 1)": -25537, "- t#5s": -5000, "t#1s - t#2s": -1000} {
		if folded, e := fold.Fold(vars, parts(s), api.TTime); e != api.OK || !slices.Equal(folded, []api.Part{of(api.TTime, want)}) {
			t.Error(s, folded, e)
		}
	}
	folded, e = fold.Fold(vars, []api.Part{number(5), number(5), op(api.NGe), field("T", "Q"), op(api.NAnd)}, api.TBool)
	if want := []api.Part{of(api.TBool, 1), field("T", "Q"), op(api.NAnd)}; e != api.OK || !slices.Equal(folded, want) {
		t.Error(folded, e)
	}
}

// edges are numbers of no type at the edges of TInt and TDint, with those beyond them that may be.
var edges = []int64{0, 1, -1, 32766, 32767, 32768, -32767, -32768, -32769, 65535, 65536, 1<<31 - 2, 1<<31 - 1, 1 << 31, -1<<31 + 1, -1 << 31}

// 10.1: numbers of no type at the edges, alone, in an index, beside others
func TestNumbersAtTheEdges(t *testing.T) {
	told := map[api.Errno]int{}
	for _, n := range edges {
		for _, x := range [][]api.Part{
			{number(n)}, {number(n), op(api.NNeg)}, {number(n), op(api.NNot)}, {number(n), number(1), op(api.NAdd)}, {number(1), number(n), op(api.NSub)},
			{number(n), index("X")}, {number(n), number(1), op(api.NAdd), index("X")}, {number(1), number(n), op(api.NSub), op(api.NNeg), index("XD")}, {number(n), index("X"), index("XD")}, {number(n), index("X"), number(n), op(api.NAdd), index("XB")},
			{number(n), to(api.TInt)}, {number(n), to(api.TTime)}, {number(n), to(api.TInt), to(api.TDint)}, {number(n), to(api.TInt), number(n), op(api.NAdd)},
			{number(n), number(0), op(api.NLt)}, {number(1), number(n), op(api.NNeg), op(api.NEq)},
			{number(n), variable("N"), op(api.NAdd)}, {variable("N"), number(n), op(api.NLt)}, {number(n), variable("D"), op(api.NAdd)}, {variable("D"), number(n), number(0), op(api.NDiv), op(api.NMod)},
		} {
			for y := range 6 {
				told[holds(t, vars, x, y)]++
			}
		}
		wantIndex := api.TDint
		if n >= -32768 && n <= 32767 {
			wantIndex = api.TInt
		}
		if y, e := fold.Resolve(vars, []api.Part{number(n), index("X")}, api.TInt); n < 1<<31 && (e != api.OK || !slices.Equal(y, []api.Part{of(wantIndex, n), index("X")})) {
			t.Error(n, y, e)
		}
	}
	if told[api.OK] < 200 || told[api.ErrRange] < 100 || told[api.ErrType] < 100 {
		t.Error(told)
	}
}

// samples answers numbers of the type, those at its edges among them.
func samples(t int) []int64 {
	if t == api.TBool {
		return []int64{0, 1}
	}
	r := refRanges[t]
	return []int64{r[0], r[0] + 1, r[0] / 2, -7, -2, -1, 0, 1, 2, 3, 7, 181, 182, r[1] / 2, r[1]/2 + 1, r[1] - 1, r[1]}
}

// 10.1, 10.2: each operation at each type that has it, and each conversion, with values that wrap
func TestOperationsOfNumbers(t *testing.T) {
	for o, types := range refOps {
		for _, y := range types {
			out := y
			if refCompares(o) {
				out = api.TBool
			}
			for _, a := range samples(y) {
				if o >= api.NNeg {
					holds(t, nil, []api.Part{of(y, a), op(o)}, out)
					continue
				}
				for _, b := range samples(y) {
					x := []api.Part{of(y, a), of(y, b), op(o)}
					if e := holds(t, nil, x, out); e != api.OK {
						t.Error(text(x), e)
					}
					if y == api.TInt || y == api.TDint {
						holds(t, nil, []api.Part{of(y, a), number(b), op(o)}, out)
						holds(t, nil, []api.Part{number(a), of(y, b), op(o)}, out)
						holds(t, nil, []api.Part{number(a), number(b), op(o)}, out)
					}
				}
			}
		}
	}
	for _, from := range []int{api.TInt, api.TDint, api.TTime} {
		for _, into := range []int{api.TInt, api.TDint, api.TTime} {
			for _, a := range append(samples(from), samples(api.TInt)...) {
				if e := holds(t, nil, []api.Part{of(from, a), to(into)}, into); e != api.OK {
					t.Error(from, into, a, e)
				}
			}
		}
	}
}

// 10.2: values written out, apart from the reference
func TestValue(t *testing.T) {
	for _, c := range []struct {
		x    string
		t    int
		want int64
		e    api.Errno
	}{
		{"5", api.TInt, 5, api.OK}, {"5", api.TDint, 5, api.OK}, {"true", api.TBool, 1, api.OK}, {"false", api.TBool, 0, api.OK}, {"t#5s", api.TTime, 5000, api.OK}, {"0", api.TInt, 0, api.OK},
		{"32767 + 1", api.TInt, -32768, api.OK}, {"32767 + 1", api.TDint, 32768, api.OK}, {"2147483647 + 1", api.TDint, -1 << 31, api.OK}, {"t#0s - t#1ms", api.TTime, -1, api.OK}, {"300 * 300", api.TInt, 24464, api.OK}, {"65536 * 65536", api.TDint, 0, api.OK}, {"- 7 / 2", api.TInt, -3, api.OK}, {"- 7 mod 2", api.TInt, -1, api.OK}, {"7 mod - 2", api.TInt, 1, api.OK}, {"(- 32767 - 1) / - 1", api.TInt, -32768, api.OK}, {"(- 32767 - 1) mod - 1", api.TInt, 0, api.OK}, {"not 5", api.TInt, -6, api.OK}, {"5 xor - 1", api.TDint, -6, api.OK},
		{"1 + 2 < 4", api.TBool, 1, api.OK}, {"32767 + 1 < 0", api.TBool, 0, api.OK}, {"int#32767 + 1 < 0", api.TBool, 1, api.OK}, {"t#1s = t#1000ms and not false", api.TBool, 1, api.OK}, {"to_int(65537)", api.TInt, 1, api.OK}, {"to_time(5) + t#1s", api.TTime, 1005, api.OK}, {"to_dint(to_int(40000)) * 2", api.TDint, -51072, api.OK},
		{"1 mod 0", api.TInt, 0, api.ErrZero}, {"1 / 0", api.TDint, 0, api.ErrZero}, {"0 / 0", api.TInt, 0, api.ErrZero}, {"5 + 7 / (3 - 3)", api.TInt, 0, api.ErrZero}, {"0 * (7 / 0)", api.TInt, 0, api.ErrZero}, {"1 / 0 = 1 / 0", api.TBool, 0, api.ErrZero}, {"false and 1 / 0 = 1", api.TBool, 0, api.ErrZero}, {"to_time(1 mod 0)", api.TTime, 0, api.ErrZero}, {"- (1 / 0)", api.TInt, 0, api.ErrZero},
		{"n", api.TInt, 0, api.ErrName}, {"1 + nobody", api.TInt, 0, api.ErrName}, {"nobody[0]", api.TInt, 0, api.ErrName}, {"t.q", api.TBool, 0, api.ErrName}, {"to_int(n)", api.TInt, 0, api.ErrName},
		{"5", api.TBool, 0, api.ErrType}, {"5", api.TTime, 0, api.ErrType}, {"5", 0, 0, api.ErrType}, {"5", 5, 0, api.ErrType}, {"5", -1, 0, api.ErrType}, {"int#5", api.TDint, 0, api.ErrType}, {"dint#5", api.TInt, 0, api.ErrType}, {"true", api.TInt, 0, api.ErrType}, {"1 < 2", api.TDint, 0, api.ErrType}, {"t#1s + 1", api.TTime, 0, api.ErrType}, {"to_int(5)", api.TDint, 0, api.ErrType}, {"to_int(true)", api.TInt, 0, api.ErrType},
		{"32768", api.TInt, 0, api.ErrRange}, {"2147483648", api.TDint, 0, api.ErrRange}, {"- 2147483648", api.TDint, 0, api.ErrRange}, {"1 - 40000", api.TInt, 0, api.ErrRange}, {"int#1 + 40000", api.TInt, 0, api.ErrRange}, {"1 < 2147483648", api.TBool, 0, api.ErrRange},
		// which one comes first
		{"true + nobody", api.TInt, 0, api.ErrName}, {"2147483648 + nobody", api.TInt, 0, api.ErrName}, {"nobody / 0", 9, 0, api.ErrName}, {"1 / 0 + nobody", api.TInt, 0, api.ErrName}, {"true / 0", api.TBool, 0, api.ErrType}, {"7 / 0", api.TBool, 0, api.ErrType}, {"7 / 0", 9, 0, api.ErrType}, {"40000 / 0", api.TInt, 0, api.ErrRange}, {"1 / 0 + int#1 + dint#1", api.TInt, 0, api.ErrType}, {"2147483648 / 0", api.TBool, 0, api.ErrRange},
	} {
		if n, e := fold.Value(parts(c.x), c.t); n != c.want || e != c.e {
			t.Errorf("Value of %s for %d = %d, %d, want %d, %d", c.x, c.t, n, e, c.want, c.e)
		}
	}
	if n, e := fold.Value([]api.Part{number(-1 << 31)}, api.TDint); n != -1<<31 || e != api.OK {
		t.Error(n, e)
	}
}

// refuses fails the test unless Resolve and Fold both answer e, and nothing beside it.
func refuses(t *testing.T, l []api.Var, x []api.Part, y int, e api.Errno) {
	t.Helper()
	if out, got := fold.Resolve(l, x, y); got != e || len(out) != 0 {
		t.Errorf("Resolve of %.200s for %d = %v, %d, want %d", text(x), y, out, got, e)
	}
	if out, got := fold.Fold(l, x, y); got != e || len(out) != 0 {
		t.Errorf("Fold of %.200s for %d = %v, %d, want %d", text(x), y, out, got, e)
	}
}

// 10.1: what chapter 9's Fits refuses, of each kind, and which comes first
func TestWhatFitsRefuses(t *testing.T) {
	for _, c := range []struct {
		x string
		t int
		e api.Errno
	}{
		{"nobody", api.TInt, api.ErrName}, {"nobody[0]", api.TInt, api.ErrName}, {"nobody.q", api.TBool, api.ErrName},
		{"x", api.TInt, api.ErrKind}, {"n[0]", api.TInt, api.ErrKind}, {"t", api.TBool, api.ErrKind}, {"t.cv", api.TInt, api.ErrKind}, {"n.q", api.TBool, api.ErrKind},
		{"n + d", api.TInt, api.ErrType}, {"n + b", api.TInt, api.ErrType}, {"e + 1", api.TTime, api.ErrType}, {"b and 1", api.TBool, api.ErrType}, {"- b", api.TBool, api.ErrType}, {"x[b]", api.TInt, api.ErrType}, {"to_int(b)", api.TInt, api.ErrType}, {"e * e", api.TTime, api.ErrType},
		{"n + 40000", api.TInt, api.ErrRange}, {"d + 2147483648", api.TDint, api.ErrRange}, {"x[2147483648]", api.TInt, api.ErrRange}, {"to_int(2147483648)", api.TInt, api.ErrRange}, {"1 < 2147483648", api.TBool, api.ErrRange}, {"2147483648", api.TDint, api.ErrRange},
		{"n", api.TDint, api.ErrType}, {"b", api.TInt, api.ErrType}, {"5", api.TBool, api.ErrType}, {"5", api.TTime, api.ErrType}, {"5", 0, api.ErrType}, {"5", 5, api.ErrType}, {"n", 0, api.ErrType}, {"n", math.MaxInt, api.ErrType}, {"n", math.MinInt, api.ErrType}, {"5", 1<<32 + 2, api.ErrType}, {"n", 101, api.ErrType},
		{"40000", api.TInt, api.ErrRange}, {"1 - 32768", api.TInt, api.ErrRange}, {"7 / 0 + 40000", api.TInt, api.ErrRange},
		{"nobody + x", 9, api.ErrName}, {"x + nobody", 9, api.ErrKind}, {"(n + d) + nobody", 9, api.ErrType}, {"(n + 40000) + nobody", 9, api.ErrRange}, {"2147483648 + nobody", 9, api.ErrName}, {"2147483648", 9, api.ErrRange}, {"40000", 9, api.ErrType}, {"n + 40000", api.TBool, api.ErrRange},
	} {
		refuses(t, vars, parts(c.x), c.t, c.e)
		holds(t, vars, parts(c.x), c.t)
	}
}

// partsThatMayNotBe are lists of parts with what chapter 6 tells of them.
func partsThatMayNotBe() map[string]struct {
	x []api.Part
	e api.Errno
} {
	type row = struct {
		x []api.Part
		e api.Errno
	}
	return map[string]row{
		"nil": {nil, api.ErrExpr}, "none": {[]api.Part{}, api.ErrExpr}, "500 of no kind": {make([]api.Part, 500), api.ErrExpr}, "501": {make([]api.Part, 501), api.ErrLong}, "a million": {make([]api.Part, 1<<20), api.ErrLong},
		"501 that go together": {append(slices.Repeat([]api.Part{number(1)}, 251), slices.Repeat([]api.Part{op(api.NAdd)}, 250)...), api.ErrLong},
		"no kind":              {[]api.Part{{}}, api.ErrExpr}, "kind 7": {[]api.Part{{Kind: 7}}, api.ErrExpr}, "kind -1": {[]api.Part{{Kind: -1}}, api.ErrExpr},
		"an operation alone": {[]api.Part{op(api.NAdd)}, api.ErrExpr}, "not alone": {[]api.Part{op(api.NNot)}, api.ErrExpr}, "one too few": {[]api.Part{number(1), op(api.NAdd)}, api.ErrExpr}, "an index alone": {[]api.Part{index("X")}, api.ErrExpr}, "a conversion alone": {[]api.Part{to(api.TInt)}, api.ErrExpr},
		"two": {[]api.Part{number(1), number(2)}, api.ErrExpr}, "two, one of no variable": {[]api.Part{variable("NOBODY"), number(2)}, api.ErrExpr},
		"operation 0": {[]api.Part{number(1), number(2), op(0)}, api.ErrExpr}, "operation 17": {[]api.Part{number(1), number(2), op(17)}, api.ErrExpr}, "a great operation": {[]api.Part{number(1), number(2), op(1<<32 + 1)}, api.ErrExpr},
		"to BOOL": {[]api.Part{number(1), to(api.TBool)}, api.ErrExpr}, "to 0": {[]api.Part{number(1), to(0)}, api.ErrExpr},
		"no name": {[]api.Part{variable("")}, api.ErrExpr}, "a small name": {[]api.Part{variable("n")}, api.ErrExpr}, "a keyword": {[]api.Part{variable("IF")}, api.ErrExpr}, "no field": {[]api.Part{field("T", "")}, api.ErrExpr},
		"a great number": {[]api.Part{number(1<<31 + 1)}, api.ErrExpr}, "a great INT": {[]api.Part{of(api.TInt, 32768)}, api.ErrExpr}, "type 5": {[]api.Part{of(5, 1)}, api.ErrExpr},
		"a name with a number": {[]api.Part{{Kind: api.PVar, S: "N", N: 1}}, api.ErrExpr}, "a number with a name": {[]api.Part{{Kind: api.PNum, S: "N"}}, api.ErrExpr},
		"too deep": {append([]api.Part{number(1)}, slices.Repeat([]api.Part{op(api.NNeg)}, 24)...), api.ErrExpr},
	}
}

// 10.1, 10.2: what chapter 6's Check refuses, at any type
func TestPartsThatMayNotBe(t *testing.T) {
	for what, c := range partsThatMayNotBe() {
		for _, y := range []int{-1, 0, 1, 2, 3, 4, 5, math.MaxInt} {
			refuses(t, vars, c.x, y, c.e)
			refuses(t, nil, c.x, y, c.e)
			if n, e := fold.Value(c.x, y); n != 0 || e != c.e {
				t.Errorf("Value of %s for %d = %d, %d, want %d", what, y, n, e, c.e)
			}
		}
	}
	deepest := append([]api.Part{number(1)}, slices.Repeat([]api.Part{op(api.NNeg)}, 23)...)
	if n, e := fold.Value(deepest, api.TInt); n != -1 || e != api.OK {
		t.Error(n, e)
	}
}

// 10.1, R1: variables that may not be are told ahead of all else; too many of them likewise
func TestVariablesThatMayNotBe(t *testing.T) {
	many := func(n int) []api.Var {
		var l []api.Var
		for i := range n {
			l = append(l, api.Var{Name: fmt.Sprint("V", i), Type: api.TInt})
		}
		return l
	}
	for _, x := range [][]api.Part{parts("1"), parts("v0 + 1"), parts("nobody"), parts("2147483648"), nil, make([]api.Part, 501)} {
		for _, y := range []int{0, api.TInt, api.TDint, 9} {
			for _, v := range []api.Var{{}, {Name: "A"}, {Name: "IF", Type: api.TInt}, {Name: "A", Type: 5}, {Name: "A", Type: api.TInt, Len: 33}, {Name: "A", Type: api.TInt, Init: 40000}} {
				refuses(t, append(many(3), v), x, y, api.ErrDecl)
			}
			refuses(t, many(65), x, y, api.ErrLong)
		}
	}
	if x, e := fold.Fold(many(64), parts("v63 + (1 + 2)"), api.TInt); e != api.OK || text(x) != "V63 + INT#3" {
		t.Error(text(x), e)
	}
}

// 10.1: of a name that is there twice the first one counts
func TestNameTwice(t *testing.T) {
	twice := []api.Var{{Name: "A", Type: api.TDint}, {Name: "X", Type: api.TInt, Len: 2}, {Name: "A", Type: api.TInt}, {Name: "X", Type: api.TDint, Len: 3}}
	for text1, want := range map[string]string{"a + 1": "A + DINT#1", "a + 70000": "A + DINT#70000", "to_dint(x[0] + 1)": "TO_DINT ( X [ INT#0 ] + INT#1 )"} {
		if x, e := fold.Resolve(twice, parts(text1), api.TDint); e != api.OK || text(x) != want {
			t.Error(text1, text(x), e)
		}
	}
}

// R4: answers are the caller's own, spare room and names too, and what is handed in stays, spare room too
func TestMemory(t *testing.T) {
	for _, s := range []string{"5", "n", "n + 1 + 2", "x[1 + 2] * (3 + 4)", "t.q and (1 < 2)", "to_int(7 / 0)", "1 + 2 + 3"} {
		y, _ := typed.Type(vars, parts(s))
		if y == 0 {
			y = api.TInt
		}
		odd := api.Part{Kind: 77, N: 77, T: 77, S: "ODD", F: "ODD"}
		room := append(parts(s), odd, odd, odd)
		x := room[:len(room)-3]
		moreVars := append(slices.Clone(vars), api.Var{}, api.Var{Name: "N"})
		l := moreVars[:len(vars)]
		before, varsBefore := slices.Clone(room), slices.Clone(moreVars)
		for what, call := range map[string]func() ([]api.Part, api.Errno){
			"Resolve": func() ([]api.Part, api.Errno) { return fold.Resolve(l, x, y) },
			"Fold":    func() ([]api.Part, api.Errno) { return fold.Fold(l, x, y) },
		} {
			first, e := call()
			want := slices.Clone(first)
			for _, p := range first {
				if p.S != "" && sharesText(p.S, x) || p.F != "" && sharesText(p.F, x) {
					t.Errorf("%s of %s answers a name of the argument", what, s)
				}
			}
			first = first[:cap(first)]
			for i := range first {
				first[i] = api.Part{Kind: 9, S: "CHANGED"}
			}
			again, e2 := call()
			if e != api.OK || e2 != api.OK || !slices.Equal(again, want) {
				t.Errorf("%s of %s = %v, %d behind a change, want %v, %d", what, s, again, e2, want, e)
			}
		}
		fold.Value(x, y)
		if !slices.Equal(room, before) || !slices.Equal(moreVars, varsBefore) {
			t.Errorf("what was handed in of %s is changed", s)
		}
	}
}

// sharesText answers whether s lies where a text of x does.
func sharesText(s string, x []api.Part) bool {
	return slices.ContainsFunc(x, func(p api.Part) bool {
		return unsafe.StringData(p.S) == unsafe.StringData(s) || unsafe.StringData(p.F) == unsafe.StringData(s)
	})
}

// balanced answers 2*n - 1 parts, no deeper than they need be.
func balanced(n int, o int64, leaves ...api.Part) []api.Part {
	if n == 1 {
		return []api.Part{leaves[0]}
	}
	left := balanced(n/2, o, leaves...)
	right := balanced(n-n/2, o, append(leaves[1:len(leaves):len(leaves)], leaves[0])...)
	return append(append(left, right...), op(o))
}

// 10.1, 10.3: expressions as long and as deep as they can be
func TestLongExpressions(t *testing.T) {
	for _, o := range []int64{api.NAdd, api.NSub, api.NMul, api.NXor} {
		for _, leaves := range [][]api.Part{{number(7)}, {number(7), number(-3)}, {variable("N"), number(5)}, {variable("D"), number(70000)}, {of(api.TInt, 3), number(9)}} {
			x := balanced(250, o, leaves...)
			for _, y := range []int{api.TInt, api.TDint} {
				holds(t, vars, x, y)
				holds(t, vars, append(slices.Clone(x), op(api.NNeg)), y)
				holds(t, vars, append(slices.Clone(x), index("X")), api.TInt)
			}
		}
	}
	if n, e := fold.Value(balanced(250, api.NAdd, number(32767)), api.TInt); n != -250 || e != api.OK {
		t.Error(n, e)
	}
	deep := parts("x[" + strings.Repeat("x[", 21) + "70000" + strings.Repeat("]", 22))
	if y, e := fold.Resolve(vars, deep, api.TInt); e != api.OK || y[0] != of(api.TDint, 70000) || holds(t, vars, deep, api.TInt) != api.OK {
		t.Error(y, e)
	}
}

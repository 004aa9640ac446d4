package gen_test

import (
	"fmt"
	"math"
	"slices"
	"strings"
	"testing"

	"capstan/api"
	"capstan/expr"
	"capstan/fold"
	"capstan/gen"
	"capstan/num"
	"capstan/typed"
)

// exprIs fails the test unless Expr answers this code of x for the type y, as long as its folded parts.
func exprIs(t *testing.T, x []api.Part, y int, want string, what string) {
	t.Helper()
	l, e := gen.Expr(vars, x, y)
	if e != api.OK || text(l) != want {
		t.Errorf("%s for %d: %s, %d, want %s", what, y, text(l), e, want)
		return
	}
	if d := differ(lines(l), refExpr(vars, x, y)); d != "" {
		t.Errorf("%s for %d: the reference says otherwise: %s", what, y, d)
	}
	if folded, _ := fold.Fold(vars, x, y); len(l) != len(folded) {
		t.Errorf("%s for %d: code of %d, folded parts %d", what, y, len(l), len(folded))
	}
}

// coded is an expression, the type that it is for, and its code.
type coded struct {
	x    string
	t    int
	code string
}

func exprAll(t *testing.T, rows []coded) {
	t.Helper()
	for _, c := range rows {
		exprIs(t, parts(c.x), c.t, c.code, c.x)
	}
}

// 14.1: parts that work on nothing
func TestNumbersVariablesFields(t *testing.T) {
	exprAll(t, []coded{
		{"5", api.TInt, "PUSH INT 5"}, {"5", api.TDint, "PUSH DINT 5"}, {"32767", api.TInt, "PUSH INT 32767"}, {"2147483647", api.TDint, "PUSH DINT 2147483647"}, {"16#ffffffff", api.TInt, "PUSH INT -1"}, {"16#80000000", api.TDint, "PUSH DINT -2147483648"},
		{"true", api.TBool, "PUSH BOOL 1"}, {"false", api.TBool, "PUSH BOOL 0"}, {"bool#1", api.TBool, "PUSH BOOL 1"}, {"int#-5", api.TInt, "PUSH INT -5"}, {"dint#-70000", api.TDint, "PUSH DINT -70000"}, {"t#5s", api.TTime, "PUSH TIME 5000"},
		{"i", api.TBool, "LOAD 0"}, {"in1", api.TInt, "LOAD 1"}, {"id", api.TDint, "LOAD 2"}, {"it", api.TTime, "LOAD 3"}, {"o", api.TBool, "LOAD 4"}, {"on", api.TInt, "LOAD 5"}, {"b", api.TBool, "LOAD 6"}, {"n", api.TInt, "LOAD 7"}, {"d", api.TDint, "LOAD 8"}, {"e", api.TTime, "LOAD 9"},
		{"t.in", api.TBool, "LOAD 49"}, {"t.pt", api.TTime, "LOAD 50"}, {"t.q", api.TBool, "LOAD 51"}, {"t.et", api.TTime, "LOAD 52"}, {"t.start", api.TTime, "LOAD 53"}, {"t.run", api.TBool, "LOAD 54"}, {"f.in", api.TBool, "LOAD 55"}, {"f.run", api.TBool, "LOAD 60"}, {"g.in", api.TBool, "LOAD 61"}, {"g.run", api.TBool, "LOAD 66"},
		{"c.cu", api.TBool, "LOAD 67"}, {"c.r", api.TBool, "LOAD 68"}, {"c.pv", api.TInt, "LOAD 69"}, {"c.q", api.TBool, "LOAD 70"}, {"c.cv", api.TInt, "LOAD 71"}, {"c.m", api.TBool, "LOAD 72"}, {"k.cd", api.TBool, "LOAD 73"}, {"k.ld", api.TBool, "LOAD 74"}, {"k.m", api.TBool, "LOAD 78"},
		{"r.clk", api.TBool, "LOAD 79"}, {"r.q", api.TBool, "LOAD 80"}, {"r.m", api.TBool, "LOAD 81"}, {"w.clk", api.TBool, "LOAD 82"}, {"w.m", api.TBool, "LOAD 84"}, {"s.s1", api.TBool, "LOAD 85"}, {"s.q1", api.TBool, "LOAD 87"}, {"z.s", api.TBool, "LOAD 88"}, {"z.r1", api.TBool, "LOAD 89"}, {"z.q1", api.TBool, "LOAD 90"},
		{"q.a", api.TBool, "LOAD 91"}, {"q.b", api.TBool, "LOAD 92"}, {"q.r", api.TBool, "LOAD 93"}, {"q.cv", api.TDint, "LOAD 94"}, {"q.err", api.TBool, "LOAD 95"}, {"q.last", api.TInt, "LOAD 96"},
	})
}

// 14.1: cells of arrays, by indexes of each type
func TestIndexes(t *testing.T) {
	exprAll(t, []coded{
		{"x[1]", api.TInt, "PUSH INT 1; LOADX 12 4"}, {"x[n]", api.TInt, "LOAD 7; LOADX 12 4"}, {"x[d]", api.TInt, "LOAD 8; LOADX 12 4"}, {"x[int#1]", api.TInt, "PUSH INT 1; LOADX 12 4"}, {"x[dint#1]", api.TInt, "PUSH DINT 1; LOADX 12 4"},
		{"x[32767]", api.TInt, "PUSH INT 32767; LOADX 12 4"}, {"x[32768]", api.TInt, "PUSH DINT 32768; LOADX 12 4"}, {"x[32767 + 1]", api.TInt, "PUSH INT -32768; LOADX 12 4"}, {"x[32768 - 1]", api.TInt, "PUSH DINT 32767; LOADX 12 4"},
		{"xb[0]", api.TBool, "PUSH INT 0; LOADX 10 2"}, {"xd[0]", api.TDint, "PUSH INT 0; LOADX 16 1"}, {"xt[31]", api.TTime, "PUSH INT 31; LOADX 17 32"},
		{"x[x[x[2]]]", api.TInt, "PUSH INT 2; LOADX 12 4; LOADX 12 4; LOADX 12 4"}, {"x[xd[70000]] + 1", api.TInt, "PUSH DINT 70000; LOADX 16 1; LOADX 12 4; PUSH INT 1; TWO + INT"}, {"xd[n + 1] + 1", api.TDint, "LOAD 7; PUSH INT 1; TWO + INT; LOADX 16 1; PUSH DINT 1; TWO + DINT"},
		{"x[7 / 0]", api.TInt, "PUSH INT 7; PUSH INT 0; TWO / INT; LOADX 12 4"}, {"not xb[n]", api.TBool, "LOAD 7; LOADX 10 2; ONE NOT BOOL"}, {"xt[n] < xt[d]", api.TBool, "LOAD 7; LOADX 17 32; LOAD 8; LOADX 17 32; TWO < TIME"},
	})
}

// 14.1: operations of two values and of one, conversions
func TestOperations(t *testing.T) {
	exprAll(t, []coded{
		{"n + 1", api.TInt, "LOAD 7; PUSH INT 1; TWO + INT"}, {"1 + n", api.TInt, "PUSH INT 1; LOAD 7; TWO + INT"}, {"d - 1", api.TDint, "LOAD 8; PUSH DINT 1; TWO - DINT"}, {"e + t#5s - it", api.TTime, "LOAD 9; PUSH TIME 5000; TWO + TIME; LOAD 3; TWO - TIME"},
		{"n - on * in1", api.TInt, "LOAD 7; LOAD 5; LOAD 1; TWO * INT; TWO - INT"}, {"(n - on) * in1", api.TInt, "LOAD 7; LOAD 5; TWO - INT; LOAD 1; TWO * INT"}, {"n mod 3 / 2", api.TInt, "LOAD 7; PUSH INT 3; TWO MOD INT; PUSH INT 2; TWO / INT"},
		{"b and i or o xor not b", api.TBool, "LOAD 6; LOAD 0; TWO AND BOOL; LOAD 4; LOAD 6; ONE NOT BOOL; TWO XOR BOOL; TWO OR BOOL"}, {"n and 7 or on", api.TInt, "LOAD 7; PUSH INT 7; TWO AND INT; LOAD 5; TWO OR INT"}, {"not d", api.TDint, "LOAD 8; ONE NOT DINT"},
		{"- n", api.TInt, "LOAD 7; ONE - INT"}, {"- d", api.TDint, "LOAD 8; ONE - DINT"}, {"- e", api.TTime, "LOAD 9; ONE - TIME"}, {"- - n", api.TInt, "LOAD 7; ONE - INT; ONE - INT"}, {"- (n + 1)", api.TInt, "LOAD 7; PUSH INT 1; TWO + INT; ONE - INT"},
		{"to_dint(n)", api.TDint, "LOAD 7; TO INT DINT"}, {"to_time(n)", api.TTime, "LOAD 7; TO INT TIME"}, {"to_int(n)", api.TInt, "LOAD 7; TO INT INT"}, {"to_int(d)", api.TInt, "LOAD 8; TO DINT INT"}, {"to_dint(d)", api.TDint, "LOAD 8; TO DINT DINT"}, {"to_time(d)", api.TTime, "LOAD 8; TO DINT TIME"}, {"to_int(e)", api.TInt, "LOAD 9; TO TIME INT"}, {"to_dint(e)", api.TDint, "LOAD 9; TO TIME DINT"}, {"to_time(e)", api.TTime, "LOAD 9; TO TIME TIME"},
		{"to_int(to_dint(n) * 70000)", api.TInt, "LOAD 7; TO INT DINT; PUSH DINT 70000; TWO * DINT; TO DINT INT"}, {"to_dint(x[to_int(d)]) + d", api.TDint, "LOAD 8; TO DINT INT; LOADX 12 4; TO INT DINT; LOAD 8; TWO + DINT"}, {"to_time(7 / 0)", api.TTime, "PUSH DINT 7; PUSH DINT 0; TWO / DINT; TO DINT TIME"},
		{"to_dint(t.et) - q.cv", api.TDint, "LOAD 52; TO TIME DINT; LOAD 94; TWO - DINT"},
	})
}

// 14.1: comparisons, whose values have another type than what comes out
func TestComparisons(t *testing.T) {
	exprAll(t, []coded{
		{"n < 5", api.TBool, "LOAD 7; PUSH INT 5; TWO < INT"}, {"5 <= d", api.TBool, "PUSH DINT 5; LOAD 8; TWO <= DINT"}, {"e >= t#1s", api.TBool, "LOAD 9; PUSH TIME 1000; TWO >= TIME"}, {"b = i", api.TBool, "LOAD 6; LOAD 0; TWO = BOOL"}, {"n <> on", api.TBool, "LOAD 7; LOAD 5; TWO <> INT"}, {"q.cv > 70000", api.TBool, "LOAD 94; PUSH DINT 70000; TWO > DINT"},
		{"n + 1 < 7", api.TBool, "LOAD 7; PUSH INT 1; TWO + INT; PUSH INT 7; TWO < INT"}, {"n < 5 = b", api.TBool, "LOAD 7; PUSH INT 5; TWO < INT; LOAD 6; TWO = BOOL"}, {"b = (n < 5)", api.TBool, "LOAD 6; LOAD 7; PUSH INT 5; TWO < INT; TWO = BOOL"}, {"(n < 5) = (d < 5)", api.TBool, "LOAD 7; PUSH INT 5; TWO < INT; LOAD 8; PUSH DINT 5; TWO < DINT; TWO = BOOL"}, {"e = it <> (d = id)", api.TBool, "LOAD 9; LOAD 3; TWO = TIME; LOAD 8; LOAD 2; TWO = DINT; TWO <> BOOL"},
		{"n < 1 and d < 2", api.TBool, "LOAD 7; PUSH INT 1; TWO < INT; LOAD 8; PUSH DINT 2; TWO < DINT; TWO AND BOOL"}, {"not (n = 1)", api.TBool, "LOAD 7; PUSH INT 1; TWO = INT; ONE NOT BOOL"}, {"7 / 0 < 1", api.TBool, "PUSH DINT 7; PUSH DINT 0; TWO / DINT; PUSH DINT 1; TWO < DINT"}, {"to_dint(n) < d", api.TBool, "LOAD 7; TO INT DINT; LOAD 8; TWO < DINT"}, {"x[n] = x[d]", api.TBool, "LOAD 7; LOADX 12 4; LOAD 8; LOADX 12 4; TWO = INT"}, {"xt[n] = xt[d]", api.TBool, "LOAD 7; LOADX 17 32; LOAD 8; LOADX 17 32; TWO = TIME"},
	})
}

// 14.1: expressions that fold to a number, and ones that fold in part
func TestFolded(t *testing.T) {
	exprAll(t, []coded{
		{"1 + 2 * 3", api.TInt, "PUSH INT 7"}, {"1 + 2 * 3", api.TDint, "PUSH DINT 7"}, {"32767 + 1", api.TInt, "PUSH INT -32768"}, {"32767 + 1", api.TDint, "PUSH DINT 32768"}, {"- 5", api.TInt, "PUSH INT -5"}, {"not 5", api.TDint, "PUSH DINT -6"}, {"1 < 2", api.TBool, "PUSH BOOL 1"}, {"not true", api.TBool, "PUSH BOOL 0"}, {"to_int(70000)", api.TInt, "PUSH INT 4464"}, {"- t#5s", api.TTime, "PUSH TIME -5000"}, {"to_time(1 + 2)", api.TTime, "PUSH TIME 3"},
		{"n + (1 + 2)", api.TInt, "LOAD 7; PUSH INT 3; TWO + INT"}, {"n + 1 + 2", api.TInt, "LOAD 7; PUSH INT 1; TWO + INT; PUSH INT 2; TWO + INT"}, {"1 + 2 + n", api.TInt, "PUSH INT 3; LOAD 7; TWO + INT"}, {"to_dint(2 * 3) + d", api.TDint, "PUSH DINT 6; LOAD 8; TWO + DINT"}, {"b and (1 < 2)", api.TBool, "LOAD 6; PUSH BOOL 1; TWO AND BOOL"}, {"1 + 1 < n", api.TBool, "PUSH INT 2; LOAD 7; TWO < INT"}, {"x[1 + 1] * - 3", api.TInt, "PUSH INT 2; LOADX 12 4; PUSH INT -3; TWO * INT"},
		{"7 / 0", api.TInt, "PUSH INT 7; PUSH INT 0; TWO / INT"}, {"(3 + 4) mod (2 - 2)", api.TDint, "PUSH DINT 7; PUSH DINT 0; TWO MOD DINT"}, {"1 + 7 / 0 + (3 + 4)", api.TInt, "PUSH INT 1; PUSH INT 7; PUSH INT 0; TWO / INT; TWO + INT; PUSH INT 7; TWO + INT"}, {"- (7 / 0)", api.TDint, "PUSH DINT 7; PUSH DINT 0; TWO / DINT; ONE - DINT"},
	})
}

// 14.1: each operation of each type that has it, and each conversion, of variables
func TestAllOperations(t *testing.T) {
	names := map[int]struct {
		name string
		cell int
	}{api.TBool: {"B", 6}, api.TInt: {"N", 7}, api.TDint: {"D", 8}, api.TTime: {"E", 9}}
	for y, v := range names {
		load := fmt.Sprint("LOAD ", v.cell)
		for o := api.NAdd; o <= api.NNot; o++ {
			x, word := []api.Part{variable(v.name), variable(v.name), op(int64(o))}, load+"; "+load+"; TWO "
			if o >= api.NNeg {
				x, word = []api.Part{variable(v.name), op(int64(o))}, load+"; ONE "
			}
			result, e := num.Result(o, y)
			if e != api.OK {
				exprRefuses(t, vars, x, y, api.ErrType)
				continue
			}
			exprIs(t, x, result, word+opNames[o]+" "+typeNames[y], opNames[o])
		}
		for to1 := api.TInt; to1 <= api.TTime; to1++ {
			x := []api.Part{variable(v.name), to(to1)}
			if y == api.TBool {
				exprRefuses(t, vars, x, to1, api.ErrType)
				continue
			}
			exprIs(t, x, to1, load+"; TO "+typeNames[y]+" "+typeNames[to1], "a conversion")
		}
	}
}

// exprRefuses fails the test unless Expr, as Fold does, answers e, and nothing beside it.
func exprRefuses(t *testing.T, l []api.Var, x []api.Part, y int, e api.Errno) {
	t.Helper()
	if out, got := gen.Expr(l, x, y); got != e || len(out) != 0 {
		t.Errorf("%.200v for %d: %v, %d, want %d", x, y, out, got, e)
	}
	if _, got := fold.Fold(l, x, y); got != e {
		t.Errorf("%.200v for %d: Fold says %d, want %d", x, y, got, e)
	}
}

// 14.1: what Fold refuses: types that x does not fit, names, numbers, parts that may not be, variables that may not be
func TestExprRefuses(t *testing.T) {
	for _, c := range []struct {
		x string
		t int
		e api.Errno
	}{
		{"nobody", api.TInt, api.ErrName}, {"nobody[0]", api.TInt, api.ErrName}, {"nobody.q", api.TBool, api.ErrName}, {"n + nobody", api.TInt, api.ErrName}, {"x[nobody]", api.TInt, api.ErrName},
		{"x", api.TInt, api.ErrKind}, {"n[0]", api.TInt, api.ErrKind}, {"t", api.TBool, api.ErrKind}, {"t.cv", api.TInt, api.ErrKind}, {"n.q", api.TBool, api.ErrKind},
		{"n + d", api.TInt, api.ErrType}, {"b + b", api.TBool, api.ErrType}, {"x[b]", api.TInt, api.ErrType}, {"to_int(b)", api.TInt, api.ErrType}, {"n", api.TDint, api.ErrType}, {"b", api.TInt, api.ErrType}, {"5", api.TBool, api.ErrType}, {"5", api.TTime, api.ErrType}, {"7 / 0", api.TBool, api.ErrType},
		{"5", 0, api.ErrType}, {"n", 0, api.ErrType}, {"5", 5, api.ErrType}, {"n", -1, api.ErrType}, {"n", math.MaxInt, api.ErrType}, {"n", math.MinInt, api.ErrType}, {"n", 1<<32 + 2, api.ErrType}, {"t", 101, api.ErrKind}, {"n", 101, api.ErrType},
		{"40000", api.TInt, api.ErrRange}, {"n + 40000", api.TInt, api.ErrRange}, {"2147483648", api.TDint, api.ErrRange}, {"x[2147483648]", api.TInt, api.ErrRange}, {"7 / 0 + 40000", api.TInt, api.ErrRange},
	} {
		exprRefuses(t, vars, parts(c.x), c.t, c.e)
	}
	for _, y := range []int{0, api.TBool, api.TInt, api.TDint, 9} {
		exprRefuses(t, vars, nil, y, api.ErrExpr)
		exprRefuses(t, vars, []api.Part{}, y, api.ErrExpr)
		exprRefuses(t, vars, make([]api.Part, 500), y, api.ErrExpr)
		exprRefuses(t, vars, make([]api.Part, 501), y, api.ErrLong)
		exprRefuses(t, vars, make([]api.Part, 1<<20), y, api.ErrLong)
		exprRefuses(t, vars, []api.Part{number(1), number(2)}, y, api.ErrExpr)
		exprRefuses(t, vars, []api.Part{op(api.NAdd)}, y, api.ErrExpr)
		exprRefuses(t, vars, []api.Part{number(1), to(api.TBool)}, y, api.ErrExpr)
		exprRefuses(t, vars, append([]api.Part{number(1)}, slices.Repeat([]api.Part{op(api.NNeg)}, 24)...), y, api.ErrExpr)
		for _, v := range []api.Var{{}, {Name: "A"}, {Name: "IF", Type: api.TInt}, {Name: "A", Type: 5}, {Name: "A", Type: api.TInt, Len: 33}, {Name: "A", Type: api.TInt, Init: 40000}} {
			exprRefuses(t, append(slices.Clone(vars), v), number5, y, api.ErrDecl)
			exprRefuses(t, []api.Var{v}, nil, y, api.ErrDecl)
		}
		exprRefuses(t, manyVars(65), number5, y, api.ErrLong)
		exprRefuses(t, manyVars(65), nil, y, api.ErrLong)
	}
}

var number5 = []api.Part{number(5)}

// manyVars answers n variables of TInt: V0, V1 and so on.
func manyVars(n int) []api.Var {
	var l []api.Var
	for i := range n {
		l = append(l, api.Var{Name: fmt.Sprint("V", i), Type: api.TInt})
	}
	return l
}

// 14.1: of a name that is there twice the first one counts; without variables there are numbers; cells may be more than an image may have
func TestOtherVariables(t *testing.T) {
	twice := []api.Var{{Name: "A", Type: api.TDint}, {Name: "X", Type: api.TInt, Len: 2}, {Name: "Y", Type: api.Block + api.BSr}, {Name: "A", Type: api.TInt}, {Name: "X", Type: api.TDint, Len: 3}, {Name: "Y", Type: api.Block + api.BRs}}
	for _, c := range []coded{
		{"a + 1", api.TDint, "LOAD 0; PUSH DINT 1; TWO + DINT"}, {"x[0] + 1", api.TInt, "PUSH INT 0; LOADX 1 2; PUSH INT 1; TWO + INT"}, {"y.q1", api.TBool, "LOAD 5"},
	} {
		if l, e := gen.Expr(twice, parts(c.x), c.t); e != api.OK || text(l) != c.code {
			t.Error(c.x, text(l), e)
		}
	}
	exprRefuses(t, twice, parts("y.r1"), api.TBool, api.ErrKind)
	for _, none := range [][]api.Var{nil, {}} {
		if l, e := gen.Expr(none, parts("1 + 2"), api.TInt); e != api.OK || text(l) != "PUSH INT 3" {
			t.Error(text(l), e)
		}
	}
	if l, e := gen.Expr(manyVars(64), parts("v63 - v0"), api.TInt); e != api.OK || text(l) != "LOAD 63; LOAD 0; TWO - INT" {
		t.Error(text(l), e)
	}
	var wide []api.Var
	for i := range 64 {
		wide = append(wide, api.Var{Name: fmt.Sprint("V", i), Type: api.TInt, Len: 32})
	}
	if l, e := gen.Expr(wide, parts("v63[1]"), api.TInt); e != api.OK || text(l) != "PUSH INT 1; LOADX 2016 32" {
		t.Error(text(l), e)
	}
}

// balanced answers 2*n - 1 parts, no deeper than they need be.
func balanced(n int, o int64, leaf api.Part) []api.Part {
	if n == 1 {
		return []api.Part{leaf}
	}
	return append(append(balanced(n/2, o, leaf), balanced(n-n/2, o, leaf)...), op(o))
}

// 14.1, 14.3: expressions as long and as deep as may be
func TestLongExpressions(t *testing.T) {
	x := append(balanced(250, api.NSub, variable("N")), op(api.NNeg))
	l, e := gen.Expr(vars, x, api.TInt)
	if d := differ(lines(l), refExpr(vars, x, api.TInt)); e != api.OK || len(l) != 500 || d != "" || line(l[499]) != "ONE - INT" {
		t.Error(len(l), e, d)
	}
	exprIs(t, balanced(250, api.NAdd, number(3)), api.TInt, "PUSH INT 750", "250 numbers")
	exprIs(t, parts("x["+strings.Repeat("x[", 21)+"n"+strings.Repeat("]", 22)), api.TInt, "LOAD 7"+strings.Repeat("; LOADX 12 4", 22), "22 indexes")
	exprIs(t, parts(strings.Repeat("- ", 23)+"n"), api.TInt, "LOAD 7"+strings.Repeat("; ONE - INT", 23), "23 times -")
	deep := append(slices.Repeat([]api.Part{variable("D")}, 24), slices.Repeat([]api.Part{op(api.NMul)}, 23)...)
	exprIs(t, deep, api.TDint, strings.TrimPrefix(strings.Repeat("; LOAD 8", 24), "; ")+strings.Repeat("; TWO * DINT", 23), "24 products")
}

// 14.1, 14.3: all expressions of one and two leaves, with a part of one value here and there
func TestAllShortExpressions(t *testing.T) {
	leaves := []api.Part{
		variable("B"), variable("N"), variable("D"), variable("E"), variable("X"), variable("NOBODY"),
		field("T", "Q"), field("T", "ET"), field("C", "CV"), field("Q", "CV"), field("T", "CV"),
		of(api.TBool, 1), of(api.TInt, -5), of(api.TInt, 0), of(api.TDint, 70000), of(api.TTime, 5),
		number(0), number(3), number(32767), number(32768), number(-32769), number(1<<31 - 1), number(1 << 31),
	}
	uppers := []api.Part{op(api.NNeg), op(api.NNot), to(api.TInt), to(api.TDint), to(api.TTime), index("XB"), index("X"), index("XD"), index("XT"), index("N")}
	told := map[api.Errno]int{}
	for _, a := range leaves {
		for _, u := range uppers {
			told[exprHolds(t, []api.Part{a})]++
			told[exprHolds(t, []api.Part{a, u})]++
			for _, w := range uppers {
				told[exprHolds(t, []api.Part{a, u, w})]++
			}
		}
		for _, b := range leaves {
			for o := int64(api.NAdd); o <= api.NGe; o++ {
				told[exprHolds(t, []api.Part{a, b, op(o)})]++
			}
			for _, o := range []int64{api.NAdd, api.NDiv, api.NLt} {
				for _, u := range uppers {
					told[exprHolds(t, []api.Part{a, b, op(o), u})]++
					told[exprHolds(t, []api.Part{a, u, b, op(o)})]++
					told[exprHolds(t, []api.Part{a, b, u, op(o)})]++
				}
			}
		}
	}
	for _, e := range []api.Errno{api.OK, api.ErrName, api.ErrKind, api.ErrType, api.ErrRange} {
		if told[e] < 200 {
			t.Errorf("%d told %d times", e, told[e])
		}
	}
}

// exprHolds fails the test unless Expr answers of x, for each type, what Fold refuses, or the code that the reference has, as long as the folded parts. It answers OK, if x has a code, else what is refused.
func exprHolds(t *testing.T, x []api.Part) api.Errno {
	t.Helper()
	if e := expr.Check(x); e != api.OK {
		t.Fatal(x, e)
	}
	_, told := typed.Type(vars, x)
	for y := range 6 {
		folded, want := fold.Fold(vars, x, y)
		l, e := gen.Expr(vars, x, y)
		if e != want || len(l) != len(folded) {
			t.Errorf("%v for %d: code of %d, %d, want %d, %d", x, y, len(l), e, len(folded), want)
		}
		if e != api.OK {
			continue
		}
		if d := differ(lines(l), refExpr(vars, x, y)); d != "" {
			t.Errorf("%v for %d: %s", x, y, d)
		}
	}
	return told
}

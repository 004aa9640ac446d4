package mean_test

import (
	"fmt"
	"math"
	"slices"
	"testing"

	"capstan/api"
	"capstan/fold"
	"capstan/mean"
	"capstan/typed"
)

// worthIs fails the test unless Worth answers just this, and the cells and parts handed in stay.
func worthIs(t *testing.T, l []api.Var, cells []int64, x []api.Part, y int, n int64, trap int, e api.Errno) {
	t.Helper()
	given, whole := slices.Clone(cells), slices.Clone(x)
	gotN, gotTrap, got := mean.Worth(l, given, whole, y)
	if gotN != n || gotTrap != trap || got != e {
		t.Errorf("%.300v for %d, with %.200v: %d, trap %d, %d, not %d, %d, %d", x, y, cells, gotN, gotTrap, got, n, trap, e)
	}
	if !slices.Equal(given, cells) || !slices.Equal(whole, x) {
		t.Errorf("%.300v for %d: what is handed in is changed", x, y)
	}
}

// reckoned is an expression, for which type, with which cells; what it is worth.
type reckoned struct {
	x     string
	t     int
	cells string
	n     int64
}

// 17.2: what expressions are worth: each part, each type
func TestWorth(t *testing.T) {
	for _, c := range []reckoned{
		{"5", api.TInt, "", 5}, {"5", api.TDint, "", 5}, {"-32767", api.TInt, "", -32767}, {"true", api.TBool, "", 1}, {"false", api.TBool, "", 0}, {"t#5s", api.TTime, "", 5000}, {"int#-5", api.TInt, "", -5},
		{"n", api.TInt, "n=7", 7}, {"b", api.TBool, "b=1", 1}, {"d", api.TDint, "d=-70000", -70000}, {"e", api.TTime, "e=2147483647", 2147483647}, {"in1", api.TInt, "in1=-9", -9}, {"o", api.TBool, "o=1", 1},
		{"t.q", api.TBool, "t.q=1", 1}, {"t.et", api.TTime, "t.et=5", 5}, {"t.in", api.TBool, "t.in=1", 1}, {"g.run", api.TBool, "g.run=1", 1}, {"c.cv", api.TInt, "c.cv=-6", -6}, {"k.pv", api.TInt, "k.pv=9", 9}, {"r.m", api.TBool, "r.m=1", 1}, {"s.q1", api.TBool, "s.q1=1", 1}, {"z.r1", api.TBool, "z.r1=1", 1}, {"q.cv", api.TDint, "q.cv=70000", 70000}, {"q.last", api.TInt, "q.last=4", 4},
		{"x[0]", api.TInt, "x[0]=3", 3}, {"x[3]", api.TInt, "x[3]=4", 4}, {"x[n]", api.TInt, "n=2 x[2]=5", 5}, {"x[d]", api.TInt, "d=1 x[1]=6", 6}, {"xb[1]", api.TBool, "xb[1]=1", 1}, {"xd[0]", api.TDint, "xd[0]=70000", 70000}, {"xt[31]", api.TTime, "xt[31]=8", 8}, {"x[x[x[n]]]", api.TInt, "x[0]=1 x[1]=2 x[2]=9", 9}, {"x[32768 - 32767]", api.TInt, "x[1]=4", 4},
		{"1 + 2 * 3", api.TInt, "", 7}, {"32767 + 1", api.TInt, "", -32768}, {"32767 + 1", api.TDint, "", 32768}, {"1 < 2", api.TBool, "", 1}, {"to_int(70000)", api.TInt, "", 4464},
		{"n + 1", api.TInt, "n=32767", -32768}, {"n * n", api.TInt, "n=300", 24464}, {"d * d", api.TDint, "d=65536", 0}, {"e + e", api.TTime, "e=2147483647", -2}, {"n - on * 2", api.TInt, "n=7 on=5", -3}, {"n / on", api.TInt, "n=-7 on=2", -3}, {"n mod on", api.TInt, "n=-7 on=2", -1}, {"d / id", api.TDint, "d=-2147483648 id=-1", -2147483648}, {"n / on", api.TInt, "n=-32768 on=-1", -32768},
		{"n and on", api.TInt, "n=12 on=10", 8}, {"n or on", api.TInt, "n=12 on=10", 14}, {"n xor on", api.TInt, "n=12 on=10", 6}, {"not n", api.TInt, "n=5", -6}, {"not b", api.TBool, "", 1}, {"not b", api.TBool, "b=1", 0}, {"- n", api.TInt, "n=5", -5}, {"- d", api.TDint, "d=-2147483648", -2147483648}, {"- e", api.TTime, "e=5", -5},
		{"b and i or o", api.TBool, "o=1", 1}, {"b xor i", api.TBool, "b=1 i=1", 0}, {"n < on", api.TBool, "on=1", 1}, {"n <= on", api.TBool, "", 1}, {"e > it", api.TBool, "e=1", 1}, {"d >= id", api.TBool, "id=1", 0}, {"b = i", api.TBool, "", 1}, {"n <> on", api.TBool, "n=1", 1}, {"(n < on) = (d < id)", api.TBool, "", 1}, {"n < 5 = (d < 70000)", api.TBool, "d=70000", 0},
		{"to_int(d)", api.TInt, "d=70000", 4464}, {"to_dint(n)", api.TDint, "n=-1", -1}, {"to_time(n) + t#1s", api.TTime, "n=5", 1005}, {"to_int(e)", api.TInt, "e=65535", -1}, {"to_dint(n) * 70000", api.TDint, "n=2", 140000}, {"x[to_int(d)] + to_int(e)", api.TInt, "d=65537 x[1]=5 e=65537", 6},
		{"not (n = on)", api.TBool, "", 0}, {"not (d < 5)", api.TBool, "d=5", 1}, {"not (e >= it) = b", api.TBool, "it=1 b=1", 1}, {"(7 - n) / (n - 3)", api.TInt, "n=5", 1}, {"n mod 3 < on and not (d = 0)", api.TBool, "n=7 on=2 d=5", 1},
	} {
		worthIs(t, vars, cellsOf(c.cells), parts(c.x), c.t, c.n, api.TDone, api.OK)
	}
}

// 17.2: traps, with 0 beside them
func TestWorthTraps(t *testing.T) {
	for _, c := range []struct {
		x     string
		t     int
		cells string
		trap  int
	}{
		{"7 / 0", api.TInt, "", api.TZero}, {"7 mod 0", api.TDint, "", api.TZero}, {"7 / n", api.TInt, "", api.TZero}, {"n mod on", api.TInt, "n=5", api.TZero}, {"d / id", api.TDint, "d=-2147483648", api.TZero}, {"d mod id", api.TDint, "d=5", api.TZero}, {"5 + 7 / n", api.TInt, "", api.TZero}, {"7 / n = 1", api.TBool, "", api.TZero}, {"to_time(7 / n)", api.TTime, "", api.TZero}, {"- (n / n)", api.TInt, "", api.TZero},
		{"x[4]", api.TInt, "", api.TIndex}, {"x[-1]", api.TInt, "", api.TIndex}, {"x[n]", api.TInt, "n=4", api.TIndex}, {"x[d]", api.TInt, "d=-1", api.TIndex}, {"xb[2]", api.TBool, "", api.TIndex}, {"xd[1]", api.TDint, "", api.TIndex}, {"xt[32]", api.TTime, "", api.TIndex}, {"xt[d]", api.TTime, "d=65536", api.TIndex}, {"1 + x[70000]", api.TInt, "", api.TIndex}, {"x[x[0]] < 5", api.TBool, "x[0]=4", api.TIndex},
		{"x[4] + 7 / 0", api.TInt, "", api.TIndex}, {"7 / 0 + x[4]", api.TInt, "", api.TZero}, {"x[7 / 0]", api.TInt, "", api.TZero}, {"7 / x[4]", api.TInt, "", api.TIndex}, {"5 + 3 * (2 + x[n] / n)", api.TInt, "", api.TZero},
	} {
		worthIs(t, vars, cellsOf(c.cells), parts(c.x), c.t, 0, c.trap, api.OK)
	}
}

// 17.2: expressions without names, with cells and with none
func TestWorthOfNumbers(t *testing.T) {
	for x, n := range map[string]int64{"5": 5, "1 + 2 * 3": 7, "-(7 / 2)": -3, "32767 + 1": -32768, "5 and 6": 4} {
		for _, none := range [][]api.Var{nil, {}} {
			for _, cells := range [][]int64{nil, {}} {
				worthIs(t, none, cells, parts(x), api.TInt, n, api.TDone, api.OK)
			}
		}
		worthIs(t, vars, cellsOf("n=5"), parts(x), api.TInt, n, api.TDone, api.OK)
		worthIs(t, vars[:1], []int64{1}, parts(x), api.TInt, n, api.TDone, api.OK)
	}
	worthIs(t, nil, nil, parts("7 / 0"), api.TInt, 0, api.TZero, api.OK)
	worthIs(t, nil, nil, parts("7 mod 0 < 1"), api.TBool, 0, api.TZero, api.OK)
}

// wide answers variables that have so many cells, up to 64 times 32.
func wide(cells int) []api.Var {
	var l []api.Var
	for ; cells > 0; cells -= 32 {
		l = append(l, api.Var{Name: fmt.Sprint("V", len(l)), Type: api.TInt, Len: min(cells, 32)})
	}
	return l
}

// 17.2, R1: what chapter 10's Fold refuses, ahead of what chapter 9's Cells refuses, ahead of ErrShape, ahead of ErrRange
func TestWorthRefuses(t *testing.T) {
	five := parts("5")
	odd := func(v api.Var) []api.Var { return append(slices.Clone(vars), v) }
	many := slices.Repeat([]api.Var{{Name: "A", Type: api.TInt}}, 65)
	for _, c := range []struct {
		l []api.Var
		x []api.Part
		t int
		e api.Errno
	}{
		{odd(api.Var{}), five, api.TInt, api.ErrDecl}, {odd(api.Var{Name: "A", Type: 9}), nil, 0, api.ErrDecl}, {odd(api.Var{Name: "A", Type: api.TInt, Len: 33}), parts("nobody"), api.TInt, api.ErrDecl}, {odd(api.Var{Name: "IF", Type: 1}), five, api.TBool, api.ErrDecl},
		{many, five, api.TInt, api.ErrLong}, {many, nil, 9, api.ErrLong},
		{vars, nil, api.TInt, api.ErrExpr}, {vars, []api.Part{}, 9, api.ErrExpr}, {vars, []api.Part{number(1), number(2)}, api.TInt, api.ErrExpr}, {vars, []api.Part{op(api.NAdd)}, api.TInt, api.ErrExpr}, {vars, make([]api.Part, 501), api.TInt, api.ErrLong}, {wide(1025), nil, api.TInt, api.ErrExpr},
		{vars, parts("nobody"), api.TInt, api.ErrName}, {vars, parts("n + nobody"), 9, api.ErrName}, {vars, parts("x"), api.TInt, api.ErrKind}, {vars, parts("t.cv"), api.TInt, api.ErrKind}, {vars, parts("n[0]"), api.TInt, api.ErrKind},
		{vars, parts("n + d"), api.TInt, api.ErrType}, {vars, parts("n"), api.TDint, api.ErrType}, {vars, parts("b"), api.TInt, api.ErrType}, {vars, five, api.TBool, api.ErrType}, {vars, five, 0, api.ErrType}, {vars, five, 5, api.ErrType}, {vars, five, math.MinInt, api.ErrType}, {vars, parts("n"), math.MaxInt, api.ErrType}, {vars, parts("n"), 1<<32 + 2, api.ErrType}, {vars, parts("t"), 101, api.ErrKind},
		{vars, parts("40000"), api.TInt, api.ErrRange}, {vars, parts("n + 40000"), api.TInt, api.ErrRange}, {vars, parts("7 / 0 + 40000"), api.TInt, api.ErrRange}, {vars, parts("x[2147483648]"), api.TInt, api.ErrRange},
		{wide(1025), parts("nobody"), api.TInt, api.ErrName}, {wide(2048), parts("40000"), api.TInt, api.ErrRange}, {wide(1025), five, api.TBool, api.ErrType},
		{wide(1025), five, api.TInt, api.ErrLong}, {wide(2048), parts("v63[0]"), api.TInt, api.ErrLong}, {wide(1025), parts("7 / 0"), api.TInt, api.ErrLong},
	} {
		if _, e := fold.Fold(c.l, c.x, c.t); e != c.e && e != api.OK {
			t.Errorf("%.200v for %d: Fold tells %d, not %d", c.x, c.t, e, c.e)
		}
		for _, cells := range [][]int64{cellsOf(""), nil, {5}, make([]int64, 1025), make([]int64, 2048), slices.Repeat([]int64{math.MaxInt64}, 97)} {
			worthIs(t, c.l, cells, c.x, c.t, 0, 0, c.e)
		}
	}
}

// 17.2: cells that are not as many as the variables', ahead of those that do not fit
func TestWorthShapes(t *testing.T) {
	for _, l := range [][]api.Var{nil, vars[:1], vars[:2], vars, wide(32), wide(1024)} {
		types, _, _ := typed.Cells(l)
		for _, many := range []int{0, 1, 2, len(types) - 1, len(types) + 1, 2*len(types) + 1, 1024, 1025, 70000} {
			if many < 0 {
				continue
			}
			for _, n := range []int64{0, math.MaxInt64} {
				e := api.ErrShape
				if many == len(types) {
					e = api.OK
					if n != 0 && many > 0 {
						e = api.ErrRange
					}
				}
				worth := map[api.Errno]int64{api.OK: 5}[e]
				worthIs(t, l, slices.Repeat([]int64{n}, many), parts("5"), api.TInt, worth, 0, e)
				worthIs(t, l, slices.Repeat([]int64{n}, many), parts("7 / 0"), api.TInt, 0, map[api.Errno]int{api.OK: api.TZero}[e], e)
			}
		}
	}
}

// 17.2: a cell that does not fit, each cell, whether it is named or not
func TestWorthCellsThatDoNotFit(t *testing.T) {
	types, _, _ := typed.Cells(vars)
	for at, y := range types {
		for _, n := range []int64{spans[y][0], spans[y][1], spans[y][0] - 1, spans[y][1] + 1, 1 << 32, -1 << 32, math.MinInt64, math.MaxInt64} {
			cells := cellsOf("")
			cells[at] = n
			for _, x := range []string{"n", "5", "7 / 0", "x[4]"} {
				if !fits(y, n) {
					worthIs(t, vars, cells, parts(x), api.TInt, 0, 0, api.ErrRange)
				}
			}
			if fits(y, n) {
				worthIs(t, vars, cells, parts("5"), api.TInt, 5, 0, api.OK)
			}
		}
	}
}

// 17.2: of two variables with one name the first one is meant, but both have their cells
func TestWorthOfTwins(t *testing.T) {
	l := []api.Var{{Name: "A", Type: api.TDint}, {Name: "X", Type: api.TInt, Len: 2}, {Name: "Y", Type: api.Block + api.BSr}, {Name: "A", Type: api.TBool}, {Name: "X", Type: api.TDint, Len: 3}, {Name: "Y", Type: api.Block + api.BRs}, {Name: "N", Type: api.TInt}}
	cells := []int64{70000, 4, 5, 1, 0, 1, 0, 70001, 70002, 70003, 0, 1, 0, -8} // A, X X, Y's three, the other ones', N
	for _, c := range []struct {
		x string
		t int
		n int64
	}{{"a", api.TDint, 70000}, {"a + 1", api.TDint, 70001}, {"x[0]", api.TInt, 4}, {"x[1]", api.TInt, 5}, {"y.s1", api.TBool, 1}, {"y.r", api.TBool, 0}, {"y.q1", api.TBool, 1}, {"n", api.TInt, -8}} {
		worthIs(t, l, cells, parts(c.x), c.t, c.n, api.TDone, api.OK)
	}
	worthIs(t, l, cells, parts("x[2]"), api.TInt, 0, api.TIndex, api.OK)
	worthIs(t, l, cells, parts("y.r1"), api.TBool, 0, 0, api.ErrKind)
	worthIs(t, l, cells[:7], parts("a"), api.TDint, 0, 0, api.ErrShape)
	cells[6] = 2
	worthIs(t, l, cells, parts("a"), api.TDint, 0, 0, api.ErrRange)
}

// 17.2: expressions as long and as deep as may be
func TestWorthOfLongExpressions(t *testing.T) {
	sum := append(balanced(250, api.NAdd, variable("N")), op(api.NNeg))
	worthIs(t, vars, cellsOf("n=3"), sum, api.TInt, -750, api.TDone, api.OK)
	worthIs(t, vars, cellsOf("n=3"), balanced(250, api.NMul, variable("N")), api.TInt, wrapped(api.TInt, powerOf3(250)), api.TDone, api.OK)
	worthIs(t, vars, cellsOf(""), append(balanced(249, api.NAdd, number(3)), number(0), op(api.NDiv)), api.TInt, 0, api.TZero, api.OK)
	worthIs(t, vars, cellsOf("n=1 x[1]=1"), parts("x["+nested("x[", "n", "]", 21)+"]"), api.TInt, 1, api.TDone, api.OK)
	right := append(slices.Repeat([]api.Part{variable("D")}, 24), slices.Repeat([]api.Part{op(api.NSub)}, 23)...)
	worthIs(t, vars, cellsOf("d=70000"), right, api.TDint, 0, api.TDone, api.OK)
}

// powerOf3 answers the power, modulo 2^16.
func powerOf3(n int) int64 {
	p := int64(1)
	for range n {
		p = p * 3 & 0xffff
	}
	return p
}

package fold_test

import (
	"math"
	"math/rand"
	"slices"
	"testing"

	"capstan/api"
	"capstan/expr"
	"capstan/fold"
)

// leaves are parts that work on nothing: some right, some wrong.
func leaves() []api.Part {
	l := []api.Part{
		variable("B"), variable("N"), variable("D"), variable("E"), variable("X"), variable("NOBODY"),
		field("T", "Q"), field("T", "ET"), field("C", "CV"), field("Q", "CV"), field("T", "CV"),
		of(api.TBool, 0), of(api.TBool, 1), of(api.TInt, -5), of(api.TInt, 0), of(api.TDint, 70000), of(api.TTime, 5),
	}
	for _, n := range []int64{0, 3, 32767, 32768, -32768, -32769, 1<<31 - 1, 1 << 31, -1 << 31} {
		l = append(l, number(n))
	}
	return l
}

// uppers are parts that work on one value.
func uppers() []api.Part {
	return []api.Part{op(api.NNeg), op(api.NNot), to(api.TInt), to(api.TDint), to(api.TTime), index("XB"), index("X"), index("XD"), index("XT"), index("N")}
}

// asks holds the expression against the promises at a type that it fits, if there is one, and at another.
func asks(t *testing.T, x []api.Part) api.Errno {
	t.Helper()
	told := api.ErrType
	for y := api.TBool; y <= api.TTime; y++ {
		if e := holds(t, vars, x, y); e != api.ErrType && told != api.OK {
			told = e
		}
	}
	return told
}

// 10.1, 10.2, 10.3: all expressions of one and two leaves, with a part of one value here and there
func TestAllShortExpressions(t *testing.T) {
	for _, a := range leaves() {
		asks(t, []api.Part{a})
		for _, u := range uppers() {
			asks(t, []api.Part{a, u})
			for _, w := range uppers() {
				asks(t, []api.Part{a, u, w})
			}
		}
		for _, b := range leaves() {
			for o := int64(api.NAdd); o <= api.NGe; o++ {
				asks(t, []api.Part{a, b, op(o)})
			}
			for _, o := range []int64{api.NAdd, api.NDiv, api.NLt} {
				for _, u := range uppers() {
					asks(t, []api.Part{a, b, op(o), u})
					asks(t, []api.Part{a, u, b, op(o)})
					asks(t, []api.Part{a, b, u, op(o)})
				}
			}
		}
	}
}

// randomExpr answers an expression of these leaves and parts of one value.
func randomExpr(r *rand.Rand, from, uppers []api.Part, depth int) []api.Part {
	if depth == 0 || r.Intn(4) == 0 {
		return []api.Part{from[r.Intn(len(from))]}
	}
	if r.Intn(4) == 0 {
		return append(randomExpr(r, from, uppers, depth-1), uppers[r.Intn(len(uppers))])
	}
	x := append(randomExpr(r, from, uppers, depth-1), randomExpr(r, from, uppers, depth-1)...)
	n := 1 + r.Int63n(8)
	if r.Intn(8) == 0 {
		n = 9 + r.Int63n(6)
	}
	return append(x, op(n))
}

// 10.1, 10.2, 10.3: random expressions, of leaves that go together and of all
func TestRandomExpressions(t *testing.T) {
	r := rand.New(rand.NewSource(101))
	told := map[api.Errno]int{}
	whole := []api.Part{op(api.NNeg), op(api.NNot), to(api.TInt), index("X")}
	wide := []api.Part{op(api.NNeg), op(api.NNot), to(api.TDint), index("XD")}
	sets := []struct{ from, uppers []api.Part }{
		{leaves(), uppers()},
		{[]api.Part{number(0), number(1), number(2), number(32767)}, whole}, {[]api.Part{number(0), number(3), number(70000), number(-32769)}, wide},
		{[]api.Part{variable("N"), number(1), number(0), number(-32768), of(api.TInt, 7)}, whole}, {[]api.Part{variable("N"), number(3), number(32768)}, whole},
		{[]api.Part{variable("D"), number(40000), number(0), field("Q", "CV")}, wide}, {[]api.Part{of(api.TDint, -1), number(1<<31 - 1), number(-1 << 31)}, wide},
		{[]api.Part{variable("B"), field("T", "Q"), of(api.TBool, 1), of(api.TBool, 0)}, []api.Part{op(api.NNot)}}, {[]api.Part{of(api.TTime, 1<<31-1), of(api.TTime, -5), variable("E")}, []api.Part{op(api.NNeg), to(api.TTime)}},
	}
	for i := range 40000 {
		s := sets[i%len(sets)]
		x := randomExpr(r, s.from, s.uppers, 1+r.Intn(5))
		if expr.Check(x) != api.OK {
			t.Fatal(text(x))
		}
		told[asks(t, x)]++
	}
	if told[api.OK] < 8000 || told[api.ErrRange] < 500 || told[api.ErrType] < 2000 || told[api.ErrName] < 200 || told[api.ErrKind] < 200 {
		t.Error(told)
	}
}

// P1, R5, R7: any parts end, errors stand alone, and the same call tells the same
func TestAnyParts(t *testing.T) {
	r := rand.New(rand.NewSource(102))
	some := append(append(leaves(), uppers()...), api.Part{}, api.Part{Kind: 9}, op(17), op(-1), op(math.MaxInt64), number(1<<31+1), of(5, 0), variable("n"))
	types := []int{math.MinInt, -1, 0, 1, 2, 3, 4, 5, 101, 1<<32 + 2, math.MaxInt}
	for range 60000 {
		var x []api.Part
		for range r.Intn(9) {
			p := some[r.Intn(len(some))]
			if r.Intn(2) == 0 {
				p = op(r.Int63n(18))
			}
			x = append(x, p)
		}
		y := types[r.Intn(len(types))]
		resolved, e := fold.Resolve(vars, x, y)
		folded, e2 := fold.Fold(vars, x, y)
		n, e3 := fold.Value(x, y)
		if e != e2 || e != api.OK && (len(resolved) != 0 || len(folded) != 0) || e3 != api.OK && n != 0 {
			t.Fatal(text(x), y, resolved, folded, n, e, e2, e3)
		}
		if want := expr.Check(x); want != api.OK && (e != want || e3 != want) {
			t.Fatal(text(x), y, e, e3, want)
		}
		again, _ := fold.Fold(vars, x, y)
		if m, e := fold.Value(x, y); m != n || e != e3 || !slices.Equal(again, folded) {
			t.Fatal("R7", text(x), y)
		}
	}
}

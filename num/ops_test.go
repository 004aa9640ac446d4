package num_test

import (
	"math"
	"math/big"
	"math/rand"
	"testing"

	"capstan/api"
	"capstan/num"
)

// typesOf has, for each operation, the types it is of: b, i, d, t for TBool, TInt, TDint, TTime, in the chapter's order.
var typesOf = map[int]string{
	api.NAdd: "idt", api.NSub: "idt",
	api.NMul: "id", api.NDiv: "id", api.NMod: "id",
	api.NAnd: "bid", api.NOr: "bid", api.NXor: "bid",
	api.NEq: "bidt", api.NNe: "bidt",
	api.NLt: "idt", api.NLe: "idt", api.NGt: "idt", api.NGe: "idt",
	api.NNeg: "idt", api.NNot: "bid",
}

// numbersOfOperations are all operations, and numbers that are none.
func numbersOfOperations() []int {
	l := []int{-1, -2, -16, 64, 65, 256 + 1, 1<<32 + 9, math.MinInt, math.MinInt + 1, math.MaxInt}
	for op := 0; op <= 20; op++ {
		l = append(l, op)
	}
	return l
}

func isOf(op, t int) bool {
	for _, letter := range typesOf[op] {
		if t == map[rune]int{'b': api.TBool, 'i': api.TInt, 'd': api.TDint, 't': api.TTime}[letter] {
			return true
		}
	}
	return false
}

func compares(op int) bool { return op >= api.NEq && op <= api.NGe }

func takesOne(op int) bool { return op == api.NNeg || op == api.NNot }

func fits(t int, n int64) bool {
	least, greatest := bounds(t)
	return least <= n && n <= greatest
}

func truth(b bool) int64 {
	if b {
		return 1
	}
	return 0
}

// twoBig answers what Two must, by numbers without an end.
func twoBig(op, t int, a, b int64) (int64, api.Errno) {
	if !isOf(op, t) || takesOne(op) {
		return 0, api.ErrType
	}
	if !fits(t, a) || !fits(t, b) {
		return 0, api.ErrRange
	}
	if (op == api.NDiv || op == api.NMod) && b == 0 {
		return 0, api.ErrZero
	}
	x, y, z := big.NewInt(a), big.NewInt(b), new(big.Int)
	order := x.Cmp(y)
	switch op {
	case api.NAdd:
		z.Add(x, y)
	case api.NSub:
		z.Sub(x, y)
	case api.NMul:
		z.Mul(x, y)
	case api.NDiv:
		z.Quo(x, y)
	case api.NMod:
		z.Rem(x, y)
	case api.NAnd:
		z.And(x, y)
	case api.NOr:
		z.Or(x, y)
	case api.NXor:
		z.Xor(x, y)
	case api.NEq:
		return truth(order == 0), api.OK
	case api.NNe:
		return truth(order != 0), api.OK
	case api.NLt:
		return truth(order < 0), api.OK
	case api.NLe:
		return truth(order <= 0), api.OK
	case api.NGt:
		return truth(order > 0), api.OK
	case api.NGe:
		return truth(order >= 0), api.OK
	}
	return wrapBig(t, z), api.OK
}

// oneBig answers what One must, by numbers without an end.
func oneBig(op, t int, a int64) (int64, api.Errno) {
	if !isOf(op, t) || !takesOne(op) {
		return 0, api.ErrType
	}
	if !fits(t, a) {
		return 0, api.ErrRange
	}
	x := big.NewInt(a)
	if op == api.NNeg {
		return wrapBig(t, x.Neg(x)), api.OK
	}
	if t == api.TBool {
		return 1 - a, api.OK
	}
	return wrapBig(t, x.Not(x)), api.OK
}

// someOf answers a number that fits t, small ones and those near its ends more often than others.
func someOf(r *rand.Rand, t int) int64 {
	least, greatest := bounds(t)
	n := least + r.Int63n(greatest-least+1)
	if r.Intn(2) == 0 {
		n >>= r.Intn(32)
	}
	if r.Intn(8) == 0 {
		n = values(t)[r.Intn(len(values(t)))]
	}
	return n
}

// 4.2, R5: each number of an operation with each number of a type.
func TestResult(t *testing.T) {
	for _, op := range numbersOfOperations() {
		for _, of := range append(append([]int{}, types...), noTypes...) {
			want, fault := of, api.OK
			if !isOf(op, of) {
				want, fault = 0, api.ErrType
			} else if compares(op) {
				want = api.TBool
			}
			if got, e := num.Result(op, of); got != want || e != fault {
				t.Errorf("Result(%d, %d): %d, %d, not %d, %d", op, of, got, e, want, fault)
			}
		}
	}
}

// 4.2: the chapter's examples, and what wraps around at the ends.
func TestTwo(t *testing.T) {
	for _, c := range []struct {
		op, of     int
		a, b, want int64
	}{
		{api.NAdd, api.TInt, 2, 3, 5}, {api.NAdd, api.TInt, greatInt, 1, leastInt}, {api.NAdd, api.TInt, leastInt, -1, greatInt}, {api.NAdd, api.TInt, leastInt, leastInt, 0}, {api.NAdd, api.TInt, greatInt, greatInt, -2},
		{api.NAdd, api.TDint, greatInt, 1, 32768}, {api.NAdd, api.TDint, greatDint, 1, leastDint}, {api.NAdd, api.TDint, leastDint, leastDint, 0},
		{api.NAdd, api.TTime, greatDint, greatDint, -2}, {api.NAdd, api.TTime, leastDint, -1, greatDint},
		{api.NSub, api.TInt, 2, 3, -1}, {api.NSub, api.TInt, leastInt, 1, greatInt}, {api.NSub, api.TInt, 0, leastInt, leastInt}, {api.NSub, api.TInt, greatInt, leastInt, -1},
		{api.NSub, api.TDint, leastDint, 1, greatDint}, {api.NSub, api.TTime, leastDint, 1, greatDint}, {api.NSub, api.TTime, 0, leastDint, leastDint},
		{api.NMul, api.TInt, 300, 300, 24464}, {api.NMul, api.TInt, leastInt, leastInt, 0}, {api.NMul, api.TInt, leastInt, greatInt, leastInt}, {api.NMul, api.TInt, greatInt, greatInt, 1}, {api.NMul, api.TInt, leastInt, -1, leastInt},
		{api.NMul, api.TDint, 300, 300, 90000}, {api.NMul, api.TDint, leastDint, leastDint, 0}, {api.NMul, api.TDint, leastDint, greatDint, leastDint}, {api.NMul, api.TDint, greatDint, greatDint, 1}, {api.NMul, api.TDint, 46341, 46341, -2147479015},
		{api.NDiv, api.TInt, 7, 2, 3}, {api.NDiv, api.TInt, -7, 2, -3}, {api.NDiv, api.TInt, 7, -2, -3}, {api.NDiv, api.TInt, -7, -2, 3}, {api.NDiv, api.TInt, 1, 2, 0}, {api.NDiv, api.TInt, -1, 2, 0}, {api.NDiv, api.TInt, leastInt, -1, leastInt}, {api.NDiv, api.TInt, 0, 5, 0},
		{api.NDiv, api.TDint, leastDint, -1, leastDint}, {api.NDiv, api.TDint, leastInt, -1, 32768}, {api.NDiv, api.TDint, greatDint, leastDint, 0}, {api.NDiv, api.TDint, leastDint, greatDint, -1},
		{api.NMod, api.TInt, 7, 2, 1}, {api.NMod, api.TInt, -7, 2, -1}, {api.NMod, api.TInt, 7, -2, 1}, {api.NMod, api.TInt, -7, -2, -1}, {api.NMod, api.TInt, leastInt, -1, 0}, {api.NMod, api.TInt, 6, 3, 0},
		{api.NMod, api.TDint, leastDint, -1, 0}, {api.NMod, api.TDint, leastDint, greatDint, -1}, {api.NMod, api.TDint, greatDint, leastDint, greatDint},
		{api.NAnd, api.TBool, 1, 1, 1}, {api.NAnd, api.TBool, 1, 0, 0}, {api.NAnd, api.TInt, -1, 12, 12}, {api.NAnd, api.TInt, 6, 3, 2}, {api.NAnd, api.TInt, leastInt, -1, leastInt}, {api.NAnd, api.TDint, leastDint, greatDint, 0},
		{api.NOr, api.TBool, 0, 0, 0}, {api.NOr, api.TBool, 1, 0, 1}, {api.NOr, api.TBool, 1, 1, 1}, {api.NOr, api.TInt, 6, 3, 7}, {api.NOr, api.TInt, leastInt, greatInt, -1}, {api.NOr, api.TDint, leastDint, 1, leastDint + 1},
		{api.NXor, api.TBool, 1, 1, 0}, {api.NXor, api.TBool, 0, 1, 1}, {api.NXor, api.TInt, 6, 3, 5}, {api.NXor, api.TInt, -1, 0, -1}, {api.NXor, api.TDint, -1, greatDint, leastDint},
		{api.NEq, api.TBool, 1, 1, 1}, {api.NEq, api.TBool, 0, 1, 0}, {api.NEq, api.TTime, 5, 5, 1}, {api.NNe, api.TBool, 0, 1, 1}, {api.NNe, api.TInt, 5, 5, 0}, {api.NNe, api.TDint, leastDint, greatDint, 1},
		{api.NLt, api.TInt, 1, 2, 1}, {api.NLt, api.TInt, 2, 2, 0}, {api.NLt, api.TInt, leastInt, greatInt, 1}, {api.NLe, api.TInt, 2, 2, 1}, {api.NLe, api.TInt, 3, 2, 0}, {api.NLe, api.TTime, greatDint, leastDint, 0},
		{api.NGt, api.TDint, greatDint, leastDint, 1}, {api.NGt, api.TDint, 2, 2, 0}, {api.NGe, api.TDint, 5, 5, 1}, {api.NGe, api.TDint, 4, 5, 0}, {api.NGe, api.TTime, leastDint, greatDint, 0},
	} {
		if got, e := num.Two(c.op, c.of, c.a, c.b); got != c.want || e != api.OK {
			t.Errorf("Two(%d, %d, %d, %d): %d, %d, not %d", c.op, c.of, c.a, c.b, got, e, c.want)
		}
	}
}

// 4.2, R1, R5: ErrType comes ahead of ErrRange, and that ahead of ErrZero.
func TestTwoTellsTheFirstFault(t *testing.T) {
	for _, c := range []struct {
		op, of int
		a, b   int64
		want   api.Errno
	}{
		{0, api.TInt, 1, 1, api.ErrType}, {17, api.TInt, 1, 1, api.ErrType}, {-1, api.TInt, 1, 1, api.ErrType},
		{api.NAdd, 0, 1, 1, api.ErrType}, {api.NAdd, 5, 1, 1, api.ErrType}, {api.NEq, 0, 0, 0, api.ErrType}, {api.NEq, 5, greatLong, 0, api.ErrType},
		{api.NAdd, api.TBool, 2, 2, api.ErrType}, {api.NDiv, api.TTime, greatLong, 0, api.ErrType}, {api.NMod, api.TBool, 1, 0, api.ErrType}, {api.NLt, api.TBool, 0, 1, api.ErrType},
		{api.NMul, api.TTime, 1, 1, api.ErrType}, {api.NAnd, api.TTime, 1, 1, api.ErrType}, {api.NOr, api.TTime, 1, 1, api.ErrType}, {api.NXor, api.TTime, 1, 1, api.ErrType},
		{api.NNeg, api.TInt, 1, 1, api.ErrType}, {api.NNot, api.TBool, 1, 1, api.ErrType}, {api.NNot, api.TInt, greatLong, 0, api.ErrType},
		{api.NAdd, api.TInt, greatInt + 1, 0, api.ErrRange}, {api.NAdd, api.TInt, 0, greatInt + 1, api.ErrRange}, {api.NAdd, api.TInt, leastInt - 1, 0, api.ErrRange}, {api.NSub, api.TInt, 0, leastInt - 1, api.ErrRange},
		{api.NMul, api.TDint, greatDint + 1, 0, api.ErrRange}, {api.NMul, api.TDint, 0, leastDint - 1, api.ErrRange}, {api.NAdd, api.TTime, leastLong, 0, api.ErrRange}, {api.NAdd, api.TTime, 0, greatLong, api.ErrRange},
		{api.NAnd, api.TBool, 2, 0, api.ErrRange}, {api.NOr, api.TBool, 0, -1, api.ErrRange}, {api.NEq, api.TBool, 2, 2, api.ErrRange}, {api.NEq, api.TInt, wordPeriod, 0, api.ErrRange}, {api.NLe, api.TDint, longPeriod, 0, api.ErrRange},
		{api.NDiv, api.TInt, greatInt + 1, 0, api.ErrRange}, {api.NMod, api.TInt, leastInt - 1, 0, api.ErrRange}, {api.NDiv, api.TDint, leastLong, -1, api.ErrRange}, {api.NDiv, api.TDint, 1, longPeriod, api.ErrRange},
		{api.NDiv, api.TInt, 7, 0, api.ErrZero}, {api.NMod, api.TInt, 7, 0, api.ErrZero}, {api.NDiv, api.TInt, 0, 0, api.ErrZero}, {api.NMod, api.TInt, 0, 0, api.ErrZero},
		{api.NDiv, api.TDint, leastDint, 0, api.ErrZero}, {api.NMod, api.TDint, greatDint, 0, api.ErrZero},
	} {
		if got, e := num.Two(c.op, c.of, c.a, c.b); got != 0 || e != c.want {
			t.Errorf("Two(%d, %d, %d, %d): %d, %d, not %d", c.op, c.of, c.a, c.b, got, e, c.want)
		}
	}
}

// 4.2, P1, R5: each operation with each type, and numbers that are none, at all edges.
func TestTwoAgainstNumbersWithoutAnEnd(t *testing.T) {
	for _, op := range numbersOfOperations() {
		for _, of := range append(append([]int{}, types...), noTypes...) {
			for _, a := range edges() {
				for _, b := range edges() {
					want, fault := twoBig(op, of, a, b)
					if got, e := num.Two(op, of, a, b); got != want || e != fault {
						t.Fatalf("Two(%d, %d, %d, %d): %d, %d, not %d, %d", op, of, a, b, got, e, want, fault)
					}
				}
			}
		}
	}
}

// 4.2, R7
func TestTwoOfAnyNumbers(t *testing.T) {
	r := rand.New(rand.NewSource(42))
	for range 200000 {
		op, of := 1+r.Intn(16), 1+r.Intn(4)
		a, b := someOf(r, of), someOf(r, of)
		want, fault := twoBig(op, of, a, b)
		for range 2 {
			if got, e := num.Two(op, of, a, b); got != want || e != fault {
				t.Fatalf("Two(%d, %d, %d, %d): %d, %d, not %d, %d", op, of, a, b, got, e, want, fault)
			}
		}
	}
}

// 4.2
func TestOne(t *testing.T) {
	for _, c := range []struct {
		op, of  int
		a, want int64
	}{
		{api.NNeg, api.TInt, 5, -5}, {api.NNeg, api.TInt, -5, 5}, {api.NNeg, api.TInt, 0, 0}, {api.NNeg, api.TInt, greatInt, -greatInt}, {api.NNeg, api.TInt, leastInt, leastInt},
		{api.NNeg, api.TDint, leastInt, 32768}, {api.NNeg, api.TDint, leastDint, leastDint}, {api.NNeg, api.TDint, greatDint, -greatDint},
		{api.NNeg, api.TTime, 7, -7}, {api.NNeg, api.TTime, leastDint, leastDint},
		{api.NNot, api.TBool, 0, 1}, {api.NNot, api.TBool, 1, 0},
		{api.NNot, api.TInt, 5, -6}, {api.NNot, api.TInt, 0, -1}, {api.NNot, api.TInt, -1, 0}, {api.NNot, api.TInt, leastInt, greatInt}, {api.NNot, api.TInt, greatInt, leastInt},
		{api.NNot, api.TDint, 5, -6}, {api.NNot, api.TDint, leastDint, greatDint}, {api.NNot, api.TDint, greatDint, leastDint}, {api.NNot, api.TDint, greatInt, leastInt},
	} {
		if got, e := num.One(c.op, c.of, c.a); got != c.want || e != api.OK {
			t.Errorf("One(%d, %d, %d): %d, %d, not %d", c.op, c.of, c.a, got, e, c.want)
		}
	}
}

// 4.2, R1, R5: ErrType comes ahead of ErrRange.
func TestOneTellsTheFirstFault(t *testing.T) {
	for _, c := range []struct {
		op, of int
		a      int64
		want   api.Errno
	}{
		{0, api.TInt, 1, api.ErrType}, {17, api.TInt, 1, api.ErrType}, {api.NNeg, 0, 1, api.ErrType}, {api.NNot, 5, 1, api.ErrType},
		{api.NNeg, api.TBool, 1, api.ErrType}, {api.NNeg, api.TBool, 2, api.ErrType}, {api.NNot, api.TTime, 1, api.ErrType}, {api.NNot, api.TTime, greatLong, api.ErrType},
		{api.NAdd, api.TInt, 1, api.ErrType}, {api.NSub, api.TInt, greatLong, api.ErrType}, {api.NXor, api.TBool, 1, api.ErrType}, {api.NGe, api.TDint, 1, api.ErrType},
		{api.NNeg, api.TInt, greatInt + 1, api.ErrRange}, {api.NNeg, api.TInt, leastInt - 1, api.ErrRange}, {api.NNeg, api.TDint, greatDint + 1, api.ErrRange}, {api.NNeg, api.TTime, leastDint - 1, api.ErrRange}, {api.NNeg, api.TTime, leastLong, api.ErrRange},
		{api.NNot, api.TBool, 2, api.ErrRange}, {api.NNot, api.TBool, -1, api.ErrRange}, {api.NNot, api.TInt, wordPeriod, api.ErrRange}, {api.NNot, api.TDint, leastLong, api.ErrRange},
	} {
		if got, e := num.One(c.op, c.of, c.a); got != 0 || e != c.want {
			t.Errorf("One(%d, %d, %d): %d, %d, not %d", c.op, c.of, c.a, got, e, c.want)
		}
	}
}

// 4.2, 4.4, P1, R5, R7
func TestOneAgainstNumbersWithoutAnEnd(t *testing.T) {
	for _, op := range numbersOfOperations() {
		for _, of := range append(append([]int{}, types...), noTypes...) {
			for _, a := range edges() {
				want, fault := oneBig(op, of, a)
				for range 2 {
					got, e := num.One(op, of, a)
					if got != want || e != fault {
						t.Fatalf("One(%d, %d, %d): %d, %d, not %d, %d", op, of, a, got, e, want, fault)
					}
					if e == api.OK && !num.Fits(of, got) {
						t.Fatalf("One(%d, %d, %d): %d does not fit", op, of, a, got)
					}
				}
			}
		}
	}
}

// 4.4: what comes out fits the type that Result tells.
func TestWhatComesOutFits(t *testing.T) {
	for op := api.NAdd; op <= api.NGe; op++ {
		for _, of := range types {
			result, e := num.Result(op, of)
			if e != api.OK {
				continue
			}
			for _, a := range values(of) {
				for _, b := range values(of) {
					if n, e := num.Two(op, of, a, b); e == api.OK && !num.Fits(result, n) {
						t.Fatalf("Two(%d, %d, %d, %d): %d does not fit %d", op, of, a, b, n, result)
					}
				}
			}
		}
	}
}

// 4.4: sums and products of wrapped numbers are the wrapped sums and products.
func TestSumsAndProductsHangOnTheRestAlone(t *testing.T) {
	r := rand.New(rand.NewSource(44))
	for range 20000 {
		of := types[1+r.Intn(3)]
		a, b := int64(r.Uint64())>>r.Intn(64), int64(r.Uint64())>>r.Intn(64)
		x, _ := num.Wrap(of, a)
		y, _ := num.Wrap(of, b)
		bigA, bigB := big.NewInt(a), big.NewInt(b)
		for op, whole := range map[int]*big.Int{
			api.NAdd: new(big.Int).Add(bigA, bigB),
			api.NSub: new(big.Int).Sub(bigA, bigB),
			api.NMul: new(big.Int).Mul(bigA, bigB),
		} {
			if op == api.NMul && of == api.TTime {
				continue
			}
			if n, e := num.Two(op, of, x, y); n != wrapBig(of, whole) || e != api.OK {
				t.Fatalf("operation %d of %d and %d in %d: %d, %d", op, a, b, of, n, e)
			}
		}
	}
}

// 4.4: the quotient times the divisor, and the remainder, are the dividend, and the remainder is smaller than the divisor and has the dividend's sign.
func TestQuotientsAndRemaindersAreTheDividend(t *testing.T) {
	for _, of := range []int{api.TInt, api.TDint} {
		for _, a := range values(of) {
			for _, b := range values(of) {
				if b == 0 {
					continue
				}
				quotient, e1 := num.Two(api.NDiv, of, a, b)
				product, e2 := num.Two(api.NMul, of, quotient, b)
				rest, e3 := num.Two(api.NMod, of, a, b)
				sum, e4 := num.Two(api.NAdd, of, product, rest)
				if sum != a || e1 != api.OK || e2 != api.OK || e3 != api.OK || e4 != api.OK {
					t.Fatalf("type %d, %d and %d: quotient %d, rest %d", of, a, b, quotient, rest)
				}
				if rest != 0 && (rest < 0) != (a < 0) || max(rest, -rest) >= max(b, -b) {
					t.Fatalf("type %d, %d and %d: rest %d", of, a, b, rest)
				}
			}
		}
	}
}

// 4.2: values from all over TInt, each with a few.
func TestTwoAllOverTInt(t *testing.T) {
	for op := api.NAdd; op <= api.NGe; op++ {
		for a := int64(leastInt); a <= greatInt; a += 7 {
			for _, b := range []int64{leastInt, -2, -1, 0, 1, 3, greatInt} {
				want, fault := twoBig(op, api.TInt, a, b)
				if got, e := num.Two(op, api.TInt, a, b); got != want || e != fault {
					t.Fatalf("Two(%d, TInt, %d, %d): %d, %d, not %d, %d", op, a, b, got, e, want, fault)
				}
			}
		}
	}
}

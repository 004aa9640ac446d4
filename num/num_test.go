package num_test

import (
	"math"
	"math/big"
	"math/rand"
	"testing"

	"capstan/api"
	"capstan/num"
)

const (
	leastInt   = -32768
	greatInt   = 32767
	leastDint  = -2147483648
	greatDint  = 2147483647
	leastLong  = math.MinInt64
	greatLong  = math.MaxInt64
	wordPeriod = 1 << 16
	longPeriod = 1 << 32
)

var types = []int{api.TBool, api.TInt, api.TDint, api.TTime}

// noTypes are numbers beside those of types, and some that are one of them modulo a power of 2.
var noTypes = []int{0, 5, 6, -1, -2, 63, 64, 65, 66, 256 + 2, 1<<32 + 3, math.MinInt + 1, math.MinInt, math.MaxInt}

// bounds answers the least and the greatest value of a type, as the chapter's words have them.
func bounds(t int) (int64, int64) {
	switch t {
	case api.TBool:
		return 0, 1
	case api.TInt:
		return leastInt, greatInt
	}
	return leastDint, greatDint
}

// edges are numbers around all ends of types and of int64.
func edges() []int64 {
	var l []int64
	for _, n := range []int64{0, 1, leastInt, greatInt, -wordPeriod, wordPeriod, leastDint, greatDint, -longPeriod, longPeriod, longPeriod / 2, 300, 46341} {
		l = append(l, n-2, n-1, n, n+1, n+2)
	}
	return append(l, leastLong, leastLong+1, greatLong-1, greatLong)
}

// values are the edges that fit t.
func values(t int) []int64 {
	var l []int64
	least, greatest := bounds(t)
	for _, n := range edges() {
		if least <= n && n <= greatest {
			l = append(l, n)
		}
	}
	return l
}

// wrapBig answers n wrapped into t, without a machine's integers.
func wrapBig(t int, n *big.Int) int64 {
	period := big.NewInt(longPeriod)
	if t == api.TBool {
		period = big.NewInt(2)
	} else if t == api.TInt {
		period = big.NewInt(wordPeriod)
	}
	r := new(big.Int).Mod(n, period).Int64()
	if _, greatest := bounds(t); r > greatest {
		r -= period.Int64()
	}
	return r
}

// 4.1
func TestFitsAtTheEnds(t *testing.T) {
	for _, of := range types {
		least, greatest := bounds(of)
		for _, c := range []struct {
			n    int64
			want bool
		}{
			{least, true}, {least + 1, true}, {greatest - 1, true}, {greatest, true}, {0, true}, {1, true},
			{least - 1, false}, {greatest + 1, false}, {leastLong, false}, {greatLong, false},
			{longPeriod, false}, {-longPeriod, false}, {longPeriod + 1, false},
		} {
			if got := num.Fits(of, c.n); got != c.want {
				t.Errorf("Fits(%d, %d): %v", of, c.n, got)
			}
		}
	}
}

// 4.1
func TestFitsOfAllSmallNumbers(t *testing.T) {
	for n := int64(-70000); n <= 70000; n++ {
		if num.Fits(api.TBool, n) != (n == 0 || n == 1) {
			t.Fatalf("TBool, %d", n)
		}
		if num.Fits(api.TInt, n) != (n >= leastInt && n <= greatInt) {
			t.Fatalf("TInt, %d", n)
		}
		if !num.Fits(api.TDint, n) || !num.Fits(api.TTime, n) {
			t.Fatalf("TDint or TTime, %d", n)
		}
	}
}

// 4.1
func TestNothingFitsWhatIsNoType(t *testing.T) {
	for _, of := range noTypes {
		for _, n := range edges() {
			if num.Fits(of, n) {
				t.Errorf("Fits(%d, %d)", of, n)
			}
		}
	}
}

// 4.1
func TestWrap(t *testing.T) {
	for _, c := range []struct {
		of      int
		n, want int64
	}{
		{api.TBool, 0, 0}, {api.TBool, 1, 1}, {api.TBool, 2, 0}, {api.TBool, 3, 1}, {api.TBool, -1, 1}, {api.TBool, -2, 0}, {api.TBool, -3, 1},
		{api.TBool, leastLong, 0}, {api.TBool, leastLong + 1, 1}, {api.TBool, greatLong, 1}, {api.TBool, greatLong - 1, 0},
		{api.TInt, greatInt, greatInt}, {api.TInt, greatInt + 1, leastInt}, {api.TInt, greatInt + 2, leastInt + 1}, {api.TInt, leastInt, leastInt}, {api.TInt, leastInt - 1, greatInt},
		{api.TInt, wordPeriod, 0}, {api.TInt, wordPeriod + 1, 1}, {api.TInt, -wordPeriod - 1, -1}, {api.TInt, leastLong, 0}, {api.TInt, greatLong, -1},
		{api.TDint, greatDint, greatDint}, {api.TDint, greatDint + 1, leastDint}, {api.TDint, leastDint, leastDint}, {api.TDint, leastDint - 1, greatDint},
		{api.TDint, 40000, 40000}, {api.TDint, longPeriod, 0}, {api.TDint, longPeriod + 7, 7}, {api.TDint, leastLong, 0}, {api.TDint, greatLong, -1},
		{api.TTime, greatDint, greatDint}, {api.TTime, greatDint + 1, leastDint}, {api.TTime, leastDint, leastDint}, {api.TTime, leastDint - 1, greatDint},
		{api.TTime, -longPeriod - 5, -5}, {api.TTime, leastLong, 0}, {api.TTime, greatLong, -1},
	} {
		if got, e := num.Wrap(c.of, c.n); got != c.want || e != api.OK {
			t.Errorf("Wrap(%d, %d): %d, %d", c.of, c.n, got, e)
		}
	}
}

// 4.1, 4.4
func TestWrapIsTheSameModuloThePeriod(t *testing.T) {
	r := rand.New(rand.NewSource(41))
	l := edges()
	for range 5000 {
		l = append(l, int64(r.Uint64())>>r.Intn(64))
	}
	for _, of := range types {
		for _, n := range l {
			got, e := num.Wrap(of, n)
			if want := wrapBig(of, big.NewInt(n)); got != want || e != api.OK {
				t.Fatalf("Wrap(%d, %d): %d, %d, not %d", of, n, got, e, want)
			}
			if !num.Fits(of, got) {
				t.Fatalf("Wrap(%d, %d): %d does not fit", of, n, got)
			}
			if num.Fits(of, n) != (got == n) {
				t.Fatalf("Wrap(%d, %d): %d, where what fits stays as it is", of, n, got)
			}
		}
	}
}

// 4.1, R5
func TestWrapIntoWhatIsNoType(t *testing.T) {
	for _, of := range noTypes {
		for _, n := range edges() {
			if got, e := num.Wrap(of, n); got != 0 || e != api.ErrType {
				t.Errorf("Wrap(%d, %d): %d, %d", of, n, got, e)
			}
		}
	}
}

// 4.3
func TestConvert(t *testing.T) {
	for _, c := range []struct {
		from, to int
		n, want  int64
	}{
		{api.TBool, api.TBool, 0, 0}, {api.TBool, api.TBool, 1, 1},
		{api.TInt, api.TInt, leastInt, leastInt}, {api.TInt, api.TInt, greatInt, greatInt},
		{api.TInt, api.TDint, leastInt, leastInt}, {api.TInt, api.TDint, greatInt, greatInt},
		{api.TInt, api.TTime, -5, -5}, {api.TInt, api.TTime, greatInt, greatInt},
		{api.TDint, api.TInt, greatInt, greatInt}, {api.TDint, api.TInt, greatInt + 1, leastInt}, {api.TDint, api.TInt, leastInt - 1, greatInt},
		{api.TDint, api.TInt, 65537, 1}, {api.TDint, api.TInt, leastDint, 0}, {api.TDint, api.TInt, greatDint, -1},
		{api.TDint, api.TDint, leastDint, leastDint}, {api.TDint, api.TDint, greatDint, greatDint},
		{api.TDint, api.TTime, leastDint, leastDint}, {api.TDint, api.TTime, greatDint, greatDint},
		{api.TTime, api.TInt, 40000, -25536}, {api.TTime, api.TInt, leastDint, 0}, {api.TTime, api.TInt, greatDint, -1},
		{api.TTime, api.TDint, leastDint, leastDint}, {api.TTime, api.TDint, greatDint, greatDint},
		{api.TTime, api.TTime, leastDint, leastDint}, {api.TTime, api.TTime, greatDint, greatDint},
	} {
		if got, e := num.Convert(c.from, c.to, c.n); got != c.want || e != api.OK {
			t.Errorf("Convert(%d, %d, %d): %d, %d", c.from, c.to, c.n, got, e)
		}
	}
}

// 4.3, 4.4, R5: each pair of numbers of types and of none, with each edge.
func TestConvertOfAllPairs(t *testing.T) {
	known := func(of int) bool { return of >= 1 && of <= 4 }
	of := append(append([]int{}, types...), noTypes...)
	for _, from := range of {
		for _, to := range of {
			for _, n := range edges() {
				var want int64
				fault := api.OK
				if !known(from) || !known(to) || from == api.TBool && to != api.TBool || from != api.TBool && to == api.TBool {
					fault = api.ErrType
				} else if least, greatest := bounds(from); n < least || n > greatest {
					fault = api.ErrRange
				} else {
					want = wrapBig(to, big.NewInt(n))
				}
				got, e := num.Convert(from, to, n)
				if got != want || e != fault {
					t.Errorf("Convert(%d, %d, %d): %d, %d, not %d, %d", from, to, n, got, e, want, fault)
				}
				if e == api.OK && !num.Fits(to, got) {
					t.Errorf("Convert(%d, %d, %d): %d does not fit", from, to, n, got)
				}
			}
		}
	}
}

// 4.3, R1: what is no type is told ahead of a value that does not fit.
func TestConvertTellsTypesFirst(t *testing.T) {
	for _, c := range []struct {
		from, to int
		n        int64
		want     api.Errno
	}{
		{0, api.TInt, greatLong, api.ErrType}, {api.TInt, 5, greatLong, api.ErrType}, {0, 0, 0, api.ErrType},
		{api.TBool, api.TInt, 2, api.ErrType}, {api.TInt, api.TBool, greatInt + 1, api.ErrType},
		{api.TBool, api.TInt, 1, api.ErrType}, {api.TDint, api.TBool, 1, api.ErrType}, {api.TTime, api.TBool, 0, api.ErrType}, {api.TBool, api.TTime, 0, api.ErrType},
		{api.TBool, api.TBool, 2, api.ErrRange}, {api.TBool, api.TBool, -1, api.ErrRange},
		{api.TInt, api.TDint, greatInt + 1, api.ErrRange}, {api.TInt, api.TDint, leastInt - 1, api.ErrRange}, {api.TInt, api.TInt, wordPeriod, api.ErrRange},
		{api.TDint, api.TInt, greatDint + 1, api.ErrRange}, {api.TTime, api.TDint, leastDint - 1, api.ErrRange}, {api.TTime, api.TInt, longPeriod, api.ErrRange},
	} {
		if got, e := num.Convert(c.from, c.to, c.n); got != 0 || e != c.want {
			t.Errorf("Convert(%d, %d, %d): %d, %d, not %d", c.from, c.to, c.n, got, e, c.want)
		}
	}
}

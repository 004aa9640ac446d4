package vm_test

import (
	"fmt"
	"strings"
	"testing"

	"capstan/api"
	"capstan/num"
)

// scan is code, what its cells are ahead of it and behind it, and how many ticks it takes up to an IEnd, its last instruction.
type scan struct {
	code, cells, behind string
	ticks               int
}

func done(t *testing.T, l []scan) {
	t.Helper()
	for _, s := range l {
		ends(t, s.code, s.cells, 100, end{s.behind, s.ticks, api.TDone, len(instrs(s.code)) - 1})
	}
}

// 16.2: IPush leaves its N
func TestPush(t *testing.T) {
	done(t, []scan{
		{"push B 1; store 0; end", "", "0=1", 3}, {"push B 0; store 0; end", "0=1", "", 3}, {"push I 7; store 1; end", "1=5", "1=7", 3}, {"push I -32768; store 1; end", "", "1=-32768", 3}, {"push I 32767; store 8; end", "", "8=32767", 3},
		{"push D 70000; store 2; end", "2=1", "2=70000", 3}, {"push D -2147483648; store 9; end", "", "9=-2147483648", 3}, {"push D 2147483647; store 31; end", "", "31=2147483647", 3}, {"push T 2147483647; store 3; end", "", "3=2147483647", 3}, {"push T -2147483648; store 12; end", "", "12=-2147483648", 3},
		{"push I 7; end", "1=5", "1=5", 2}, {"end", "0=1 1=5 33=-7", "0=1 1=5 33=-7", 1},
	})
}

// 16.2: ILoad leaves the cell, IStore takes what lies on top into the cell, of each cell
func TestLoadAndStore(t *testing.T) {
	done(t, []scan{
		{"load 1; store 7; end", "1=-32768 7=9", "1=-32768 7=-32768", 3}, {"load 2; store 9; end", "2=2147483647", "2=2147483647 9=2147483647", 3}, {"load 3; store 14; end", "3=-5 14=6", "3=-5 14=-5", 3}, {"load 0; store 5; end", "0=1", "0=1 5=1", 3}, {"load 0; store 0; end", "0=1", "0=1", 3},
		{"load 1; load 7; store 1; store 7; end", "1=3 7=4", "1=4 7=3", 5}, {"load 1; load 2; load 3; store 11; store 10; store 8; end", "1=1 2=2 3=3", "1=1 2=2 3=3 8=1 10=2 11=3", 7},
		{"load 33; store 33; end", "33=-1", "33=-1", 3},
	})
	for from := range laid {
		for to := range laid {
			if laid[from] == laid[to] {
				done(t, []scan{{fmt.Sprintf("load %d; store %d; end", from, to), fmt.Sprintf("%d=1", from), fmt.Sprintf("%d=1 %d=1", from, to), 3}})
			}
		}
	}
}

// 16.2: as much lies on the stack as may lie there, the last one on top
func TestFullStack(t *testing.T) {
	x := imageOf(strings.Repeat("I", api.MaxStack), nil)
	want := ran{}
	for n := range api.MaxStack {
		x.Code = append(x.Code, api.Instr{Op: api.IPush, A: api.TInt, N: int64(n) * 3})
	}
	for n := range api.MaxStack {
		x.Code = append(x.Code, api.Instr{Op: api.IStore, A: n})
		want.Cells = append(want.Cells, int64(api.MaxStack-1-n)*3)
	}
	x.Code = append(x.Code, api.Instr{Op: api.IEnd})
	for n := range x.Code {
		want.places = append(want.places, n)
	}
	want.Used, want.At = 129, 128
	m := machine(t, x)
	tells(t, m, x.First, 0, 200, want)
	holds(t, m, x, x.First, 0, 64)
	holds(t, m, x, x.First, 0, 65)
}

// 16.2: ILoadX and IStoreX have the cell A + the index; the index lies below what is stored
func TestArrays(t *testing.T) {
	const full = "4=1 5=1 6=60 7=70 8=80 9=90 10=100 11=110 12=120 "
	done(t, []scan{
		{"push I 0; loadx 6 3; store 1; end", full, full + "1=60", 4}, {"push I 1; loadx 6 3; store 1; end", full, full + "1=70", 4}, {"push I 2; loadx 6 3; store 1; end", full, full + "1=80", 4}, {"push D 2; loadx 6 3; store 1; end", full, full + "1=80", 4},
		{"push D 0; loadx 9 2; store 2; end", full, full + "2=90", 4}, {"push I 1; loadx 9 2; store 2; end", full, full + "2=100", 4}, {"push I 1; loadx 11 2; store 3; end", full, full + "3=120", 4}, {"push D 0; loadx 11 2; store 3; end", full, full + "3=110", 4}, {"push I 1; loadx 4 2; store 0; end", full, full + "0=1", 4}, {"push I 0; loadx 4 2; store 0; end", "0=1 5=1", "5=1", 4},
		{"push I 0; push I 5; storex 6 3; end", full, full + "6=5", 4}, {"push I 1; push I 5; storex 6 3; end", full, full + "7=5", 4}, {"push I 2; push I 1; storex 6 3; end", full, full + "8=1", 4}, {"push D 1; push I 2; storex 6 3; end", full, full + "7=2", 4},
		{"push I 1; push D 0; storex 9 2; end", full, full + "10=0", 4}, {"push D 0; push D 1; storex 9 2; end", full, full + "9=1", 4}, {"push I 1; push T 0; storex 11 2; end", full, full + "12=0", 4}, {"push I 0; push B 0; storex 4 2; end", full, full + "4=0", 4}, {"push I 0; push B 1; storex 4 2; end", "", "4=1", 4},
		{"load 1; loadx 6 3; loadx 6 3; store 1; end", "1=2 6=7 7=9 8=1", "1=9 6=7 7=9 8=1", 5}, {"push I 0; loadx 33 1; store 1; end", "33=4", "33=4 1=4", 4}, {"push I 0; push B 1; storex 0 1; end", "", "0=1", 4},
		{"load 8; load 7; load 6; storex 6 3; load 1; storex 6 3; end", full + "7=2 8=0 1=3", full + "7=2 8=60 1=3 6=3", 7},
	})
}

// 16.2: ITwo reckons with what lies below and what lies on top, in this order
func TestTwo(t *testing.T) {
	done(t, []scan{
		{"push I 7; push I 2; two + I; store 1; end", "", "1=9", 5}, {"push I 7; push I 2; two - I; store 1; end", "", "1=5", 5}, {"push I -7; push I 2; two / I; store 1; end", "", "1=-3", 5}, {"push I -7; push I 2; two mod I; store 1; end", "", "1=-1", 5}, {"push I 7; push I -2; two mod I; store 1; end", "", "1=1", 5}, {"push I 300; push I 300; two * I; store 1; end", "", "1=24464", 5},
		{"push I 32767; push I 1; two + I; store 1; end", "", "1=-32768", 5}, {"push I -32768; push I -1; two / I; store 1; end", "", "1=-32768", 5}, {"push I -32768; push I -1; two mod I; store 1; end", "1=4", "", 5}, {"push D -2147483648; push D 1; two - D; store 2; end", "", "2=2147483647", 5}, {"push D -2147483648; push D -1; two * D; store 2; end", "", "2=-2147483648", 5}, {"push T 2147483647; push T 2; two + T; store 3; end", "", "3=-2147483647", 5},
		{"push I 12; push I 10; two and I; store 1; end", "", "1=8", 5}, {"push I 12; push I 10; two or I; store 1; end", "", "1=14", 5}, {"push I 12; push I 10; two xor I; store 1; end", "", "1=6", 5}, {"push B 1; push B 1; two xor B; store 0; end", "0=1", "", 5}, {"push B 1; push B 0; two or B; store 0; end", "", "0=1", 5},
		{"push I 1; push I 2; two < I; store 0; end", "", "0=1", 5}, {"push I 2; push I 1; two < I; store 0; end", "0=1", "", 5}, {"push T 2; push T 1; two >= T; store 0; end", "", "0=1", 5}, {"push D 70000; push D 70000; two = D; store 0; end", "", "0=1", 5}, {"push B 0; push B 0; two <> B; store 0; end", "0=1", "", 5},
	})
}

// edgesOf are values of a type: the least, the greatest, those beside them, and some between.
func edgesOf(y int) []int64 {
	if y == api.TBool {
		return []int64{0, 1}
	}
	least, most := spans[y][0], spans[y][1]
	return []int64{least, least + 1, -300, -2, -1, 0, 1, 2, 300, most - 1, most}
}

// 16.2: ITwo of each operation and type is chapter 4's Two, a division by 0 the trap TZero
func TestTwoOfAll(t *testing.T) {
	many, zeros := 0, 0
	for y := api.TBool; y <= api.TTime; y++ {
		for op := api.NAdd; op <= api.NGe; op++ {
			made, e := num.Result(op, y)
			if e != api.OK {
				continue
			}
			many++
			x := imageOf(letters[y-1:y]+letters[y-1:y]+letters[made-1:made], []api.Instr{{Op: api.ILoad}, {Op: api.ILoad, A: 1}, {Op: api.ITwo, A: op, B: y}, {Op: api.IStore, A: 2}, {Op: api.IEnd}})
			m := machine(t, x)
			for _, a := range edgesOf(y) {
				for _, b := range edgesOf(y) {
					want := ran{places: []int{0, 1, 2, 3, 4}}
					n, e := num.Two(op, y, a, b)
					want.Cells, want.Used, want.At = []int64{a, b, n}, 5, 4
					if e == api.ErrZero {
						zeros++
						want.Cells, want.Used, want.Trap, want.At, want.places = []int64{a, b, 1}, 3, api.TZero, 2, []int{0, 1, 2}
					}
					tells(t, m, []int64{a, b, 1}, 0, 9, want)
					holds(t, m, x, []int64{a, b, 1}, 0, 9)
				}
			}
		}
	}
	if many != 5+14+14+8 || zeros != 44 {
		t.Error(many, zeros)
	}
}

// 16.2: IOne of each operation and type is chapter 4's One, ITo its Convert
func TestOneAndTo(t *testing.T) {
	done(t, []scan{
		{"load 1; one neg I; store 1; end", "1=7", "1=-7", 4}, {"load 1; one neg I; store 1; end", "1=-32768", "1=-32768", 4}, {"load 2; one neg D; store 2; end", "2=-2147483648", "2=-2147483648", 4}, {"load 3; one neg T; store 3; end", "3=5", "3=-5", 4}, {"load 1; one not I; store 1; end", "1=5", "1=-6", 4}, {"load 2; one not D; store 2; end", "2=-1", "", 4}, {"load 0; one not B; store 0; end", "0=1", "", 4}, {"load 0; one not B; store 0; end", "", "0=1", 4},
		{"load 2; to D I; store 1; end", "2=65537", "1=1 2=65537", 4}, {"load 2; to D I; store 1; end", "2=40000", "1=-25536 2=40000", 4}, {"load 3; to T I; store 1; end", "3=32768", "1=-32768 3=32768", 4}, {"load 1; to I D; store 2; end", "1=-7", "1=-7 2=-7", 4}, {"load 1; to I T; store 3; end", "1=7", "1=7 3=7", 4}, {"load 3; to T D; store 2; end", "3=-70000", "3=-70000 2=-70000", 4}, {"load 2; to D T; store 3; end", "2=70000", "2=70000 3=70000", 4}, {"load 1; to I I; store 1; end", "1=3", "1=3", 4}, {"load 0; to B B; store 4; end", "0=1", "0=1 4=1", 4},
	})
	many := 0
	for y := api.TBool; y <= api.TTime; y++ {
		for op := api.NNeg; op <= api.NNot; op++ {
			if _, e := num.Result(op, y); e == api.OK {
				many++
				eachValue(t, y, y, api.Instr{Op: api.IOne, A: op, B: y}, func(n int64) (int64, api.Errno) { return num.One(op, y, n) })
			}
		}
		for to := api.TBool; to <= api.TTime; to++ {
			if _, e := num.Convert(y, to, 0); e == api.OK {
				many++
				eachValue(t, y, to, api.Instr{Op: api.ITo, A: y, B: to}, func(n int64) (int64, api.Errno) { return num.Convert(y, to, n) })
			}
		}
	}
	if many != 3+3+10 {
		t.Error(many)
	}
}

// eachValue fails the test unless the instruction leaves what the call makes of each of its type's values.
func eachValue(t *testing.T, y, made int, i api.Instr, call func(n int64) (int64, api.Errno)) {
	t.Helper()
	x := imageOf(letters[y-1:y]+letters[made-1:made], []api.Instr{{Op: api.ILoad}, i, {Op: api.IStore, A: 1}, {Op: api.IEnd}})
	m := machine(t, x)
	for _, n := range append(edgesOf(y), edgesOf(api.TInt)...) {
		if !fits(y, n) {
			continue
		}
		is, e := call(n)
		if e != api.OK {
			t.Fatal(i, n, e)
		}
		want := ran{places: []int{0, 1, 2, 3}}
		want.Cells, want.Used, want.At = []int64{n, is}, 4, 3
		tells(t, m, []int64{n, 0}, 0, 9, want)
		holds(t, m, x, []int64{n, 0}, 0, 9)
	}
}

// the chapter's example
func TestExample(t *testing.T) {
	const text = "load 1; push I 1; two + I; store 1; end"
	ends(t, text, "1=6", 5, end{"1=7", 5, api.TDone, 4})
	ends(t, text, "1=6", 4, end{"1=7", 4, api.TBudget, 4})
	ends(t, text, "1=6", 3, end{"1=6", 3, api.TBudget, 3})
}

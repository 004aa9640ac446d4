package typed_test

import (
	"fmt"
	"math"
	"math/rand"
	"reflect"
	"slices"
	"strings"
	"testing"

	"capstan/api"
	"capstan/decl"
	"capstan/expr"
	"capstan/lex"
	"capstan/typed"
)

var (
	values = []int{api.TBool, api.TInt, api.TDint, api.TTime}
	blocks = []int{101, 102, 103, 104, 105, 106, 107, 108, 109, 110}
)

// heads are variables of all kinds, as a program's text has them.
const heads = `program p
	var_input i : bool; in1 : int := 5; id : dint; it : time; end_var
	var_output o : bool := true; on : int := -7; end_var
	var b : bool; n : int := 3; d : dint := -70000; e : time := t#5s;
		xb : array[0..1] of bool; x : array[0..3] of int; xd : array[0..0] of dint; xt : array[0..31] of time;
		t : ton; f : tof; g : tp; c : ctu; k : ctd; r : r_trig; w : f_trig; s : sr; z : rs; q : quad;
	end_var `

// program answers the program that has these statements behind the heads.
func program(body string) api.Program {
	p, f := decl.Parse(heads + body + " end_program")
	if f != (api.Fault{}) {
		panic(fmt.Sprint(body, f))
	}
	return p
}

var vars = program("").Vars

// parts answers the parts of an expression's text.
func parts(text string) []api.Part {
	l, f := lex.Tokens(text)
	x, next, g := expr.Parse(l, 0)
	if f != (api.Fault{}) || g != (api.Fault{}) || next != len(l)-1 {
		panic(fmt.Sprint(text, f, g))
	}
	return x
}

// many answers n variables of one cell, each with a name of its own.
func many(n int) []api.Var {
	var l []api.Var
	for i := range n {
		l = append(l, api.Var{Name: fmt.Sprint("V", i), Type: api.TInt})
	}
	return l
}

// 9.1: each kind, and each number beside them
func TestFieldsOfEachKind(t *testing.T) {
	for kind := 1; kind <= 10; kind++ {
		var want []typed.Field
		for _, f := range refFields(kind) {
			want = append(want, typed.Field{Name: f.name, Type: f.t, Set: f.set})
		}
		if got, e := typed.Fields(kind); e != api.OK || !slices.Equal(got, want) {
			t.Errorf("Fields(%d) = %v, %d, want %v", kind, got, e, want)
		}
	}
	for _, kind := range []int{0, -1, 11, 12, 20, 100, 101, 110, 111, -100, 1 << 32, 1<<32 + 1, 257, math.MaxInt, math.MinInt} {
		if got, e := typed.Fields(kind); e != api.ErrBlock || len(got) != 0 {
			t.Errorf("Fields(%d) = %v, %d", kind, got, e)
		}
	}
}

// 9.1: some of them written out, apart from the reference
func TestFieldsWrittenOut(t *testing.T) {
	got, _ := typed.Fields(api.BQuad)
	want := []typed.Field{{Name: "A", Type: 1, Set: true}, {Name: "B", Type: 1, Set: true}, {Name: "R", Type: 1, Set: true}, {Name: "CV", Type: 3}, {Name: "ERR", Type: 1}, {Name: "LAST", Type: 2}}
	if !slices.Equal(got, want) {
		t.Error(got)
	}
	got, _ = typed.Fields(api.BTof)
	want = []typed.Field{{Name: "IN", Type: 1, Set: true}, {Name: "PT", Type: 4, Set: true}, {Name: "Q", Type: 1}, {Name: "ET", Type: 4}, {Name: "START", Type: 4}, {Name: "RUN", Type: 1}}
	if !slices.Equal(got, want) {
		t.Error(got)
	}
}

// R4: what Fields answers is the caller's own, spare room too
func TestFieldsAreNewMemory(t *testing.T) {
	for kind := 1; kind <= 10; kind++ {
		a, _ := typed.Fields(kind)
		want := slices.Clone(a)
		a = a[:cap(a)]
		for i := range a {
			a[i] = typed.Field{Name: "ODD", Type: 9, Set: !a[i].Set}
		}
		if b, _ := typed.Fields(kind); !slices.Equal(b, want) {
			t.Errorf("Fields(%d) = %v behind a change", kind, b)
		}
	}
}

// 9.1: where variables of each kind begin
func TestPlace(t *testing.T) {
	at := 0
	for _, v := range vars {
		if got, w, e := typed.Place(vars, v.Name); got != at || w != v || e != api.OK {
			t.Errorf("Place(%s) = %d, %v, %d, want %d", v.Name, got, w, e, at)
		}
		types, _ := refCells([]api.Var{v})
		at += len(types)
	}
	for name, want := range map[string]int{"I": 0, "O": 4, "XB": 10, "X": 12, "XD": 16, "XT": 17, "T": 49, "F": 55, "C": 67, "K": 73, "R": 79, "W": 82, "S": 85, "Z": 88, "Q": 91} {
		if got, _, _ := typed.Place(vars, name); got != want {
			t.Errorf("Place(%s) = %d, want %d", name, got, want)
		}
	}
	for _, name := range []string{"", "P", "n", "NN", "T.Q", "IN", "TON", "X[0]", "N ", "\x00", strings.Repeat("N", 1<<16)} {
		if at, v, e := typed.Place(vars, name); at != 0 || v != (api.Var{}) || e != api.ErrName {
			t.Errorf("Place(%.20q) = %d, %v, %d", name, at, v, e)
		}
	}
	if at, v, e := typed.Place(nil, "A"); at != 0 || v != (api.Var{}) || e != api.ErrName {
		t.Error("without variables", at, v, e)
	}
}

// 9.1: of a name that is there twice the first one counts
func TestPlaceOfANameTwice(t *testing.T) {
	twice := []api.Var{{Name: "A", Type: api.TInt, Len: 3}, {Name: "B", Type: api.TTime, Init: 1}, {Name: "C", Type: api.TBool}, {Name: "B", Type: 101}, {Name: "A", Type: api.TBool}, {Name: "D", Type: api.TBool}}
	for name, want := range map[string]int{"A": 0, "B": 3, "C": 4, "D": 12} {
		if at, v, e := typed.Place(twice, name); at != want || e != api.OK || v != twice[slices.IndexFunc(twice, func(v api.Var) bool { return v.Name == name })] {
			t.Errorf("Place(%s) = %d, %v, %d, want %d", name, at, v, e, want)
		}
	}
	if types, _, e := typed.Cells(twice); len(types) != 13 || e != api.OK {
		t.Error(types, e)
	}
	for x, want := range map[string]int{"b": api.TTime, "a[0]": api.TInt} {
		if k, e := typed.Type(twice, parts(x)); k != want || e != api.OK {
			t.Errorf("Type of %s = %d, %d", x, k, e)
		}
	}
	for _, x := range []string{"a", "b.q"} {
		if k, e := typed.Type(twice, parts(x)); k != 0 || e != api.ErrKind {
			t.Errorf("Type of %s = %d, %d", x, k, e)
		}
	}
}

// 9.1: types and first values of each kind
func TestCells(t *testing.T) {
	types, first, e := typed.Cells(vars)
	wantTypes, wantFirst := refCells(vars)
	if !slices.Equal(types, wantTypes) || !slices.Equal(first, wantFirst) || e != api.OK {
		t.Errorf("Cells = %v, %v, %d, want %v, %v", types, first, e, wantTypes, wantFirst)
	}
	if !slices.Equal(first[:10], []int64{0, 5, 0, 0, 1, -7, 0, 3, -70000, 5000}) || !slices.Equal(types[:16], []int{1, 2, 3, 4, 1, 2, 1, 2, 3, 4, 1, 1, 2, 2, 2, 2}) || !slices.Equal(types[91:], []int{1, 1, 1, 3, 1, 2}) {
		t.Error(types, first)
	}
	for _, none := range [][]api.Var{nil, {}} {
		if types, first, e := typed.Cells(none); len(types) != 0 || len(first) != 0 || e != api.OK {
			t.Error(types, first, e)
		}
	}
	for _, y := range append(slices.Clone(values), blocks...) {
		for n := 0; n <= 32; n++ {
			if n > 0 && y > 100 {
				continue
			}
			v := []api.Var{{Name: "A", Type: y, Len: n}}
			wantTypes, wantFirst := refCells(v)
			if types, first, e := typed.Cells(v); !slices.Equal(types, wantTypes) || !slices.Equal(first, wantFirst) || e != api.OK {
				t.Errorf("Cells of %v = %v, %v, %d", v, types, first, e)
			}
		}
	}
	for y, r := range refRanges {
		for _, n := range []int64{max(0, r[0]), 1, r[1]} {
			if _, first, e := typed.Cells([]api.Var{{Name: "A", Type: y, Init: n}, {Name: "B", Type: y, Dir: api.DOutput, Init: n}}); !slices.Equal(first, []int64{n, n}) || e != api.OK {
				t.Error(y, n, first, e)
			}
		}
	}
}

// asksAll fails the test unless Place, Cells, Type and Fits of these variables all answer e, and nothing beside it.
func asksAll(t *testing.T, l []api.Var, e api.Errno, what string) {
	t.Helper()
	at, v, got := typed.Place(l, l[0].Name)
	if got != e || at != 0 || v != (api.Var{}) {
		t.Errorf("Place of %s = %d, %v, %d, want %d", what, at, v, got, e)
	}
	types, first, got := typed.Cells(l)
	if got != e || len(types) != 0 || len(first) != 0 {
		t.Errorf("Cells of %s = %v, %v, %d, want %d", what, types, first, got, e)
	}
	for _, x := range [][]api.Part{parts("1"), parts("nobody"), parts("2147483648"), nil, make([]api.Part, 501)} {
		if k, got := typed.Type(l, x); got != e || k != 0 {
			t.Errorf("Type of %s = %d, %d, want %d", what, k, got, e)
		}
		for y := -1; y < 6; y++ {
			if got := typed.Fits(l, x, y); got != e {
				t.Errorf("Fits of %s = %d, want %d", what, got, e)
			}
		}
	}
}

// oddVars are variables that may not be.
func oddVars() []api.Var {
	l := []api.Var{
		{}, {Name: "A"}, {Type: api.TInt}, {Name: "a", Type: api.TInt}, {Name: "IF", Type: api.TInt}, {Name: strings.Repeat("A", 25), Type: api.TInt},
		{Name: "A", Type: 5}, {Name: "A", Type: -1}, {Name: "A", Type: 100}, {Name: "A", Type: 111}, {Name: "A", Type: math.MaxInt}, {Name: "A", Type: math.MinInt},
		{Name: "A", Type: api.TInt, Dir: 3}, {Name: "A", Type: api.TInt, Dir: -1},
		{Name: "A", Type: api.TInt, Len: -1}, {Name: "A", Type: api.TInt, Len: 33}, {Name: "A", Type: api.TInt, Len: math.MaxInt}, {Name: "A", Type: api.TInt, Len: math.MinInt},
		{Name: "A", Type: api.TInt, Len: 2, Init: 1}, {Name: "A", Type: 101, Len: 1}, {Name: "A", Type: 101, Init: 1},
		{Name: "A", Type: api.TInt, Len: 2, Dir: api.DInput}, {Name: "A", Type: api.TInt, Len: 2, Dir: api.DOutput}, {Name: "A", Type: 104, Dir: api.DInput}, {Name: "A", Type: 104, Dir: api.DOutput},
	}
	for y, r := range refRanges {
		l = append(l, api.Var{Name: "A", Type: y, Init: r[0] - 1}, api.Var{Name: "A", Type: y, Init: r[1] + 1})
	}
	return l
}

// 9.1, 9.2: variables that may not be
func TestVariablesThatMayNotBe(t *testing.T) {
	for _, v := range oddVars() {
		what := fmt.Sprintf("%+v", v)
		asksAll(t, []api.Var{v}, api.ErrDecl, what)
		asksAll(t, append(many(63), v), api.ErrDecl, what+" behind 63")
		asksAll(t, append([]api.Var{v}, many(40)...), api.ErrDecl, what+" ahead of 40")
		if at, e := typed.Check(api.Program{Name: "P", Vars: append(many(3), v)}); at != 0 || e != api.ErrDecl {
			t.Errorf("Check with %s = %d, %d", what, at, e)
		}
	}
}

// 9.1, R1: how many variables there may be; that one may not be is named ahead of that they are too many
func TestManyVariables(t *testing.T) {
	for _, n := range []int{1, 63, 64} {
		l := many(n)
		if at, v, e := typed.Place(l, l[n-1].Name); at != n-1 || v != l[n-1] || e != api.OK {
			t.Error(n, at, v, e)
		}
		if types, first, e := typed.Cells(l); len(types) != n || len(first) != n || e != api.OK {
			t.Error(n, types, first, e)
		}
		if k, e := typed.Type(l, parts("v0 + 1")); k != api.TInt || e != api.OK {
			t.Error(n, k, e)
		}
		if e := typed.Fits(l, parts("v0 + 1"), api.TInt); e != api.OK {
			t.Error(n, e)
		}
		if at, e := typed.Check(api.Program{Name: "P", Vars: l}); at != 0 || e != api.OK {
			t.Error(n, at, e)
		}
	}
	for _, n := range []int{65, 66, 1000, 100000} {
		asksAll(t, many(n), api.ErrLong, fmt.Sprint(n, " variables"))
		asksAll(t, append(many(n), api.Var{}), api.ErrDecl, fmt.Sprint(n, " variables and one that may not be"))
		asksAll(t, append([]api.Var{{Name: "A"}}, many(n)...), api.ErrDecl, fmt.Sprint("one that may not be and ", n, " variables"))
		if at, e := typed.Check(api.Program{Name: "P", Vars: many(n)}); at != 0 || e != api.ErrDecl {
			t.Error(n, at, e)
		}
	}
	asksAll(t, slices.Repeat([]api.Var{{Name: "A", Type: api.TInt}}, 65), api.ErrLong, "65 of one name")
	l := append(many(64), api.Var{})
	if _, _, e := typed.Cells(l[:64]); e != api.OK {
		t.Error("what lies behind the length is read")
	}
}

// wide answers variables with n cells in all, of arrays as long as they can be.
func wide(n int) []api.Var {
	var l []api.Var
	for ; n > 0; n -= 32 {
		l = append(l, api.Var{Name: fmt.Sprint("W", len(l)), Type: api.TDint, Len: min(n, 32)})
	}
	return l
}

// 9.1, 9.3: as many cells as there may be, and one more
func TestManyCells(t *testing.T) {
	for _, n := range []int{1, 1023, 1024} {
		if types, first, e := typed.Cells(wide(n)); len(types) != n || len(first) != n || e != api.OK {
			t.Error(n, len(types), len(first), e)
		}
		if at, e := typed.Check(api.Program{Name: "P", Vars: wide(n)}); at != 0 || e != api.OK {
			t.Error(n, at, e)
		}
	}
	for _, n := range []int{1025, 1026, 2048} {
		l := wide(n)
		if types, first, e := typed.Cells(l); len(types) != 0 || len(first) != 0 || e != api.ErrLong {
			t.Error(n, types, first, e)
		}
		if at, e := typed.Check(api.Program{Name: "P", Vars: l}); at != 0 || e != api.ErrLong {
			t.Error(n, at, e)
		}
		if at, e := typed.Check(api.Program{Name: "W1", Vars: l}); at != 0 || e != api.ErrName {
			t.Error("a name twice is told ahead of cells", at, e)
		}
		if at, e := typed.Check(api.Program{Name: "P", Vars: l, Body: []api.Stmt{{Kind: api.SExit}}}); at != 0 || e != api.ErrLong {
			t.Error("cells are told ahead of statements", at, e)
		}
		if types, first, e := typed.Cells(append(l[:len(l):len(l)], api.Var{})); len(types) != 0 || len(first) != 0 || e != api.ErrDecl {
			t.Error("a variable that may not be is told ahead of cells", types, first, e)
		}
		// only Cells and Check refuse them
		if at, v, e := typed.Place(l, l[len(l)-1].Name); at != (len(l)-1)*32 || v != l[len(l)-1] || e != api.OK {
			t.Error(n, at, v, e)
		}
		if k, e := typed.Type(l, parts("w0[1] + 1")); k != api.TDint || e != api.OK {
			t.Error(n, k, e)
		}
	}
	blocks := append(wide(1020), api.Var{Name: "R", Type: api.Block + api.BRtrig})
	if _, _, e := typed.Cells(blocks); e != api.OK {
		t.Error(e)
	}
	blocks[len(blocks)-1].Type = api.Block + api.BTon
	if _, _, e := typed.Cells(blocks); e != api.ErrLong {
		t.Error(e)
	}
}

// randomVars answers variables that may be, of all kinds, some of whose names are there twice.
func randomVars(r *rand.Rand) []api.Var {
	var l []api.Var
	arrays := 2 + r.Intn(6)
	for i := range 1 + r.Intn(64) {
		v := api.Var{Name: fmt.Sprint("V", i), Type: values[r.Intn(4)], Dir: r.Intn(3)}
		if r.Intn(12) == 0 {
			v.Name = "V0"
		}
		switch r.Intn(arrays) {
		case 0:
			v.Type, v.Dir = blocks[r.Intn(10)], api.DLocal
		case 1:
			v.Init = r.Int63n(2)
		default:
			v.Len, v.Dir = 32-r.Intn(1+r.Intn(32)), api.DLocal
		}
		l = append(l, v)
	}
	return l
}

// 9.1, 9.4: places of unlike variables do not meet, and are filled without a gap
func TestCellsDoNotMeet(t *testing.T) {
	r := rand.New(rand.NewSource(91))
	long := 0
	for range 2000 {
		l := randomVars(r)
		types, first, e := typed.Cells(l)
		wantTypes, wantFirst := refCells(l)
		if len(wantTypes) > 1024 {
			long++
			if e != api.ErrLong || len(types) != 0 || len(first) != 0 {
				t.Fatal(l, e)
			}
			continue
		}
		if e != api.OK || !slices.Equal(types, wantTypes) || !slices.Equal(first, wantFirst) {
			t.Fatal(l, types, first, e)
		}
		owners := make([]int, len(types))
		for i, v := range l {
			if slices.IndexFunc(l, func(o api.Var) bool { return o.Name == v.Name }) != i {
				continue
			}
			at, got, e := typed.Place(l, v.Name)
			if e != api.OK || got != v {
				t.Fatal(l, v, at, got, e)
			}
			own, _, _ := typed.Cells([]api.Var{v})
			for k, y := range own {
				if owners[at+k]++; owners[at+k] > 1 || types[at+k] != y {
					t.Fatalf("cell %d of %s in %v", at+k, v.Name, l)
				}
			}
		}
	}
	if long < 50 || long > 1500 {
		t.Errorf("%d were too long", long)
	}
}

// R4, R7: lists that Cells answers are the caller's own
func TestCellsAreNewMemory(t *testing.T) {
	types, first, _ := typed.Cells(vars)
	wantTypes, wantFirst := slices.Clone(types), slices.Clone(first)
	types, first = types[:cap(types)], first[:cap(first)]
	for i := range types {
		types[i] = -1
	}
	for i := range first {
		first[i] = -1
	}
	if types, first, e := typed.Cells(vars); !slices.Equal(types, wantTypes) || !slices.Equal(first, wantFirst) || e != api.OK {
		t.Error(types, first, e)
	}
}

// deep answers a copy of everything in p; room is how much spare room, filled with odd things, each list gets behind its end.
func deep(p api.Program, room int) api.Program {
	v := reflect.ValueOf(&p).Elem()
	deepen(v, room)
	return p
}

func deepen(v reflect.Value, room int) {
	switch v.Kind() {
	case reflect.Struct:
		for i := range v.NumField() {
			deepen(v.Field(i), room)
		}
	case reflect.Slice:
		n := v.Len()
		all := reflect.MakeSlice(v.Type(), n+room, n+room)
		reflect.Copy(all, v)
		for i := range n {
			deepen(all.Index(i), room)
		}
		for i := n; i < n+room; i++ {
			odd(all.Index(i))
		}
		v.Set(all.Slice(0, n))
	}
}

// odd makes every number 77 and every text ODD.
func odd(v reflect.Value) {
	switch v.Kind() {
	case reflect.Struct:
		for i := range v.NumField() {
			odd(v.Field(i))
		}
	case reflect.String:
		v.SetString("ODD")
	case reflect.Int, reflect.Int64:
		v.SetInt(77)
	}
}

// spread answers all that p holds, what lies behind its lists' lengths too, as a text.
func spread(v reflect.Value) string {
	switch v.Kind() {
	case reflect.Struct:
		var l []string
		for i := range v.NumField() {
			l = append(l, spread(v.Field(i)))
		}
		return "{" + strings.Join(l, " ") + "}"
	case reflect.Slice:
		var l []string
		for i := range v.Cap() {
			l = append(l, spread(v.Slice(0, v.Cap()).Index(i)))
		}
		return fmt.Sprint(v.Len(), l)
	}
	return fmt.Sprint(v)
}

// R4, R7: what is handed in stays as it is, spare room too, and lists behind their lengths are not read
func TestArgumentsStay(t *testing.T) {
	for _, body := range []string{
		"",
		"x[n + 1] := x[2] + n; if i and not o then n := 5; elsif b then return; else d := d * 2; end_if;",
		"for n := 1 to x[3] by -2 do repeat exit; until t.q end_repeat; end_for; case d of 5, -3, 1: b := true; 4: else t(pt := e + t#5s, in := b); end_case;",
		"while b do case n of 3, 2, 3: end_case; end_while;",
		"c(pv := 3, cu := b, r := i, cu := b);",
		"n := nobody;",
	} {
		plain := program(body)
		p := deep(plain, 3)
		before := spread(reflect.ValueOf(p))
		at, e := typed.Check(p)
		if wantAt, want := typed.Check(plain); at != wantAt || e != want {
			t.Errorf("Check of %s = %d, %d, and %d, %d without spare room", body, at, e, wantAt, want)
		}
		typed.Cells(p.Vars)
		typed.Place(p.Vars, "Q")
		for _, s := range p.Body {
			typed.Type(p.Vars, s.X)
			typed.Fits(p.Vars, s.X, api.TInt)
		}
		if spread(reflect.ValueOf(p)) != before {
			t.Errorf("what was handed in of %s is changed", body)
		}
	}
}

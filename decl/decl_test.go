package decl_test

import (
	"fmt"
	"math"
	"math/rand"
	"slices"
	"strings"
	"testing"

	"capstan/api"
	"capstan/decl"
	"capstan/lex"
	"capstan/stmt"
)

var none = api.Fault{}

// typeWords are the words of types and of blocks, by their types.
var typeWords = map[int]string{}

func init() {
	for word, t := range refTypes {
		typeWords[t] = word
	}
}

var (
	values = []int{api.TBool, api.TInt, api.TDint, api.TTime}
	blocks = []int{101, 102, 103, 104, 105, 106, 107, 108, 109, 110}
	dirs   = []int{api.DLocal, api.DInput, api.DOutput}
)

// same: whether these are the same programs, lists nil or empty.
func same(a, b api.Program) bool {
	return a.Name == b.Name && slices.Equal(a.Vars, b.Vars) && sameStmts(a.Body, b.Body)
}

func sameStmts(a, b []api.Stmt) bool {
	return slices.EqualFunc(a, b, func(a, b api.Stmt) bool {
		return a.Kind == b.Kind && a.Name == b.Name && a.By == b.By && slices.Equal(a.Index, b.Index) && slices.Equal(a.X, b.X) && slices.Equal(a.Y, b.Y) &&
			sameStmts(a.Body, b.Body) && sameStmts(a.Else, b.Else) &&
			slices.EqualFunc(a.Arms, b.Arms, func(a, b api.Arm) bool {
				return slices.Equal(a.Labels, b.Labels) && sameStmts(a.Body, b.Body)
			}) &&
			slices.EqualFunc(a.Args, b.Args, func(a, b api.Arg) bool { return a.Name == b.Name && slices.Equal(a.X, b.X) })
	})
}

// program answers one with the name P.
func program(vars ...api.Var) api.Program { return api.Program{Name: "P", Vars: vars} }

// body answers the statements of a text that is right.
func body(text string) []api.Stmt {
	l, f := lex.Tokens(text)
	s, next, g := stmt.Parse(l, 0)
	if f != none || g != none || next != len(l)-1 {
		panic(text)
	}
	return s
}

// many answers n variables that may be, each with a name of its own.
func many(n int) []api.Var {
	var vars []api.Var
	for i := range n {
		vars = append(vars, api.Var{Name: fmt.Sprint("V", i), Type: api.TInt})
	}
	return vars
}

// checks fails the test unless Check and Show say of p whether it may be as told, and Show shows one that may be as the reference does, to be read again.
func checks(t *testing.T, p api.Program, mayBe bool, what string) {
	t.Helper()
	e := api.OK
	if !mayBe {
		e = api.ErrDecl
	}
	if got := decl.Check(p); got != e {
		t.Errorf("Check of %s = %d, want %d", what, got, e)
	}
	s, got := decl.Show(p)
	if got != e || !mayBe && s != "" {
		t.Errorf("Show of %s = %.300q, %d, want %d", what, s, got, e)
	}
	if !mayBe {
		return
	}
	if want := refShow(p); s != want {
		t.Errorf("Show of %s = %.300q, want %.300q", what, s, want)
	}
	if again, f := decl.Parse(s); f != none || !same(again, p) {
		t.Errorf("what is shown of %s, %.300q, is read as %+v, %v", what, s, again, f)
	}
}

// 8.2, 8.3
func TestCheckOfPrograms(t *testing.T) {
	checks(t, program(), true, "the least one")
	checks(t, api.Program{Name: "P", Vars: []api.Var{}, Body: []api.Stmt{}}, true, "one with empty lists")
	checks(t, api.Program{Name: "P", Vars: many(3), Body: body("v1 := v2 + 1; if v1 < 5 then v2 := 0; else return; end_if;")}, true, "an ordinary one")
	checks(t, program(api.Var{Name: "A", Type: 1}, api.Var{Name: "A", Type: 2}, api.Var{Name: "P", Type: 3}), true, "one with names twice")
	checks(t, api.Program{Name: "P", Body: body("q := x.y; a(b := c); exit;")}, true, "one with names that are not there")
	checks(t, api.Program{}, false, "nothing")
	checks(t, api.Program{Vars: many(1)}, false, "one without a name")
}

// 8.2: names of programs and of variables
func TestCheckOfNames(t *testing.T) {
	good := []string{"A", "Z", "_", "__", "_1", "A1_", "IFF", "VARS", "END", "PROGRAMS", "T", "I", "N", "TO_BOOL", "VAR_IN_OUT", strings.Repeat("A", 24), strings.Repeat("_9", 12)}
	bad := append(slices.Clone(refKeywords), "", "a", "Aa", "1", "1A", " ", "A ", " A", "A B", "A-B", "A.B", "A#", "Ä", "\x00", "A\x00", "\xff", ";", ":=", strings.Repeat("A", 25), strings.Repeat("A", 1<<17))
	for _, s := range good {
		checks(t, api.Program{Name: s}, true, s)
		checks(t, program(api.Var{Name: s, Type: api.TInt}), true, "a variable "+s)
	}
	for _, s := range bad {
		checks(t, api.Program{Name: s}, false, s)
		checks(t, program(api.Var{Name: s, Type: api.TInt}), false, "a variable "+s)
		checks(t, program(append(many(63), api.Var{Name: s, Type: api.TInt})...), false, "a last variable "+s)
	}
}

// 8.2: each type, array and block, in each section
func TestCheckOfTypes(t *testing.T) {
	for y := -2; y < 220; y++ {
		value := y >= 1 && y <= 4
		block := y >= 101 && y <= 110
		for dir := -2; dir < 5; dir++ {
			for _, length := range []int{0, 1, 2, 31, 32, 33, -1, -32, math.MaxInt, math.MinInt, 1 << 32, 1<<32 + 1} {
				for _, init := range []int64{0, 1} {
					array := length >= 1 && length <= 32
					v := api.Var{Name: "A", Type: y, Len: length, Init: init, Dir: dir}
					mayBe := dir == 0 && init == 0 && (value && array || block && length == 0) || dir >= 0 && dir <= 2 && value && length == 0
					checks(t, program(v), mayBe, fmt.Sprintf("%+v", v))
				}
			}
		}
	}
	for _, odd := range []int{math.MaxInt, math.MinInt, 1<<32 + 1, 1<<32 + 101, -101, 256 + 1, 1<<16 + 2} {
		checks(t, program(api.Var{Name: "A", Type: odd}), false, fmt.Sprint("type ", odd))
		checks(t, program(api.Var{Name: "A", Type: 1, Dir: odd}), false, fmt.Sprint("dir ", odd))
		checks(t, program(api.Var{Name: "A", Type: 1, Len: odd}), false, fmt.Sprint("len ", odd))
	}
}

// 8.2: what a variable may be at first
func TestCheckOfFirsts(t *testing.T) {
	edges := []int64{0, 1, 2, -1, -2, 5, 32766, 32767, 32768, -32767, -32768, -32769, 65535, 65536, 65537, 1<<31 - 2, 1<<31 - 1, 1 << 31, -1<<31 + 1, -1 << 31, -1<<31 - 1, 1<<32 - 1, 1 << 32, 1<<32 + 1, math.MaxInt64, math.MinInt64}
	for _, n := range edges {
		for _, dir := range dirs {
			for _, y := range values {
				within := refRanges[y]
				v := api.Var{Name: "A", Type: y, Init: n, Dir: dir}
				checks(t, program(v), within[0] <= n && n <= within[1], fmt.Sprintf("%+v", v))
			}
		}
		for _, y := range values {
			checks(t, program(api.Var{Name: "A", Type: y, Len: 4, Init: n}), n == 0, fmt.Sprintf("an array of %d with %d", y, n))
		}
		for _, y := range blocks {
			checks(t, program(api.Var{Name: "A", Type: y, Init: n}), n == 0, fmt.Sprintf("a block %d with %d", y, n))
		}
	}
}

// 8.2: how many variables there may be
func TestCheckOfManyVariables(t *testing.T) {
	for _, n := range []int{1, 2, 63, 64, 65, 66, 128, 5000} {
		checks(t, program(many(n)...), n <= 64, fmt.Sprint(n, " variables"))
		vars := many(n)
		for i := range vars {
			vars[i].Dir = i % 3
		}
		checks(t, program(vars...), n <= 64, fmt.Sprint(n, " variables in sections"))
	}
	if p := program(slices.Repeat([]api.Var{{Name: "A", Type: api.TInt}}, 64)...); decl.Check(p) != api.OK {
		t.Error("64 variables of one name")
	}
	for i := range 64 {
		vars := many(64)
		vars[i].Type = 5
		checks(t, program(vars...), false, fmt.Sprint("a wrong one at ", i))
	}
	if p := program(append(many(64), api.Var{})[:64]...); decl.Check(p) != api.OK {
		t.Error("what lies behind the length is read")
	}
}

// 8.2: statements that may not be are the program's fault
func TestCheckOfStatements(t *testing.T) {
	exit := api.Stmt{Kind: api.SExit}
	deep := func(n int) []api.Stmt {
		var s []api.Stmt
		for range n {
			s = []api.Stmt{{Kind: api.SWhile, X: []api.Part{{Kind: api.PVar, S: "A"}}, Body: s}}
		}
		return s
	}
	for i, c := range []struct {
		s     []api.Stmt
		mayBe bool
	}{
		{[]api.Stmt{exit}, true},
		{slices.Repeat([]api.Stmt{exit}, 400), true},
		{slices.Repeat([]api.Stmt{exit}, 401), false},
		{deep(20), true},
		{deep(21), false},
		{deep(100000), false},
		{[]api.Stmt{{}}, false},
		{[]api.Stmt{exit, {Kind: 10}}, false},
		{[]api.Stmt{{Kind: api.SSet, Name: "IF", X: []api.Part{{Kind: api.PNum}}}}, false},
		{[]api.Stmt{{Kind: api.SSet, Name: "A"}}, false},
		{[]api.Stmt{{Kind: api.SSet, Name: "A", X: slices.Repeat([]api.Part{{Kind: api.PNum}}, 501)}}, false},
		{[]api.Stmt{{Kind: api.SSet, Name: "A", X: []api.Part{{Kind: api.PNum, N: 40000, T: api.TInt}}}}, false},
	} {
		checks(t, api.Program{Name: "P", Body: c.s}, c.mayBe, fmt.Sprint("statements ", i))
		checks(t, api.Program{Name: "P", Vars: many(64), Body: c.s}, c.mayBe, fmt.Sprint("variables and statements ", i))
		checks(t, api.Program{Name: "P", Vars: many(65), Body: c.s}, false, fmt.Sprint("65 variables and statements ", i))
		checks(t, api.Program{Name: "VAR", Vars: many(1), Body: c.s}, false, fmt.Sprint("VAR and statements ", i))
	}
}

// anyOf answers one of these.
func anyOf[T any](r *rand.Rand, l ...T) T { return l[r.Intn(len(l))] }

// randomVar answers a variable that mostly may be.
func randomVar(r *rand.Rand) api.Var {
	v := api.Var{Name: anyOf(r, "A", "B1", "_", "T", "N_N"), Type: anyOf(r, values...), Dir: anyOf(r, dirs...)}
	switch r.Intn(4) {
	case 0:
		v.Type, v.Dir = anyOf(r, blocks...), 0
	case 1:
		v.Len, v.Dir = 1+r.Intn(32), 0
	case 2:
		within := refRanges[v.Type]
		v.Init = within[0] + r.Int63n(within[1]-within[0]+1)
	}
	if r.Intn(40) == 0 {
		v.Init = anyOf[int64](r, -1, 1, 2, 40000, 1<<31)
	}
	if r.Intn(80) == 0 {
		v.Len = anyOf(r, -1, 1, 33)
	}
	if r.Intn(80) == 0 {
		v.Type = anyOf(r, 0, 5, 100, 111)
	}
	if r.Intn(80) == 0 {
		v.Dir = anyOf(r, -1, 1, 2, 3)
	}
	if r.Intn(80) == 0 {
		v.Name = anyOf(r, "", "a", "IF", "TON")
	}
	return v
}

// bodies are statements of which random programs have one or more.
var bodies = []string{"", "a := 1;", "a[i + 1] := t#5s;", "if a then exit; elsif b then else return; end_if;", "case n of 1, -2: n := 5; else a := true; end_case;", "for i := 0 to 5 by -2 do t(in := a, pt := t#5ms); end_for;", "repeat until not (t.q and a) end_repeat;", "while a do while b do exit; end_while; end_while;"}

func randomProgram(r *rand.Rand) api.Program {
	p := program()
	for range r.Intn(8) {
		p.Vars = append(p.Vars, randomVar(r))
	}
	for range r.Intn(3) {
		p.Body = append(p.Body, body(anyOf(r, bodies...))...)
	}
	return p
}

// 8.2, 8.3
func TestRandomPrograms(t *testing.T) {
	r := rand.New(rand.NewSource(8))
	good := 0
	for range 20000 {
		p := randomProgram(r)
		mayBe := refMayBe(p)
		checks(t, p, mayBe, fmt.Sprintf("%+v", p))
		if mayBe {
			good++
		}
	}
	if good < 10000 || good > 19000 {
		t.Errorf("%d of the programs may be", good)
	}
}

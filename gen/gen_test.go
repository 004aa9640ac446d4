package gen_test

import (
	"fmt"
	"math"
	"slices"
	"strings"
	"testing"

	"capstan/api"
	"capstan/code"
	"capstan/decl"
	"capstan/gen"
	"capstan/typed"
)

// 14.1: the image's name, cells, first values, inputs and outputs in order
func TestImage(t *testing.T) {
	x := makes(t, program(""), []string{"END"}, "the heads")
	want := api.Image{Name: "P", In: []int{0, 1, 2, 3}, Out: []int{4, 5}, Code: []api.Instr{{Op: api.IEnd}}}
	for _, c := range "BIDTBI" + "BIDT" + "BB" + "IIII" + "D" + strings.Repeat("T", 32) + "BTBTTB" + "BTBTTB" + "BTBTTB" + "BBIBIB" + "BBIBIB" + "BBB" + "BBB" + "BBB" + "BBB" + "BBBDBI" {
		want.Types = append(want.Types, 1+strings.IndexRune("BIDT", c))
	}
	want.First = make([]int64, 97)
	want.First[1], want.First[4], want.First[5], want.First[7], want.First[8], want.First[9] = 5, 1, -7, 3, -70000, 5000
	if !same(x, want) {
		t.Errorf("%+v, want %+v", x, want)
	}
}

// 14.1: inputs and outputs between other variables, of more cells than one among them
func TestInAndOut(t *testing.T) {
	p := api.Program{Name: "LINES_1", Vars: []api.Var{
		{Name: "A", Type: api.TInt, Len: 3}, {Name: "O2", Type: api.TTime, Dir: api.DOutput, Init: 7}, {Name: "I3", Type: api.TBool, Dir: api.DInput, Init: 1}, {Name: "T", Type: api.Block + api.BTon},
		{Name: "I1", Type: api.TDint, Dir: api.DInput, Init: math.MinInt32}, {Name: "B", Type: api.TBool}, {Name: "O1", Type: api.TInt, Dir: api.DOutput, Init: -32768}, {Name: "I2", Type: api.TInt, Dir: api.DInput},
	}}
	x := makes(t, p, []string{"END"}, "lines")
	want := api.Image{Name: "LINES_1", Types: []int{2, 2, 2, 4, 1, 1, 4, 1, 4, 4, 1, 3, 1, 2, 2}, First: []int64{0, 0, 0, 7, 1, 0, 0, 0, 0, 0, 0, math.MinInt32, 0, -32768, 0}, In: []int{4, 11, 14}, Out: []int{3, 13}, Code: []api.Instr{{Op: api.IEnd}}}
	if !same(x, want) {
		t.Errorf("%+v, want %+v", x, want)
	}
	for dir, many := range map[int][2]int{api.DLocal: {0, 0}, api.DInput: {64, 0}, api.DOutput: {0, 64}} {
		p := api.Program{Name: "P", Vars: manyVars(64)}
		for i := range p.Vars {
			p.Vars[i].Dir = dir
		}
		x := makes(t, p, []string{"END"}, "64 of one kind")
		if len(x.Types) != 64 || len(x.In) != many[0] || len(x.Out) != many[1] {
			t.Errorf("%d: %d cells, %d in, %d out", dir, len(x.Types), len(x.In), len(x.Out))
		}
		for n, cell := range append(x.In, x.Out...) {
			if n != cell {
				t.Error(dir, n, cell)
			}
		}
	}
}

// 14.1: as many cells as an image may have, and one more
func TestManyCells(t *testing.T) {
	var l []api.Var
	for i := range 32 {
		l = append(l, api.Var{Name: fmt.Sprint("V", i), Type: api.TInt, Len: 32})
	}
	p := api.Program{Name: "P", Vars: l, Body: []api.Stmt{{Kind: api.SSet, Name: "V31", Index: number5, X: []api.Part{number(1), index("V31")}}}}
	if x := makes(t, p, []string{"PUSH INT 5", "PUSH INT 1", "LOADX 992 32", "STOREX 992 32", "END"}, "1024 cells"); len(x.Types) != 1024 || len(x.First) != 1024 {
		t.Error(len(x.Types), len(x.First))
	}
	p.Vars = append(p.Vars, api.Var{Name: "N", Type: api.TInt})
	refuses(t, p, 0, api.ErrLong, "1025 cells")
	p.Body = []api.Stmt{{Kind: api.SReturn}, {Kind: api.SExit}}
	refuses(t, p, 0, api.ErrLong, "1025 cells and a wrong statement")
}

// 14.1: what chapter 9's Check refuses: the place of the first statement that is not right, and why
func TestGenRefuses(t *testing.T) {
	for _, c := range []struct {
		body string
		at   int
		e    api.Errno
	}{
		{"nobody := 1;", 0, api.ErrName}, {"n := 1; n := nobody;", 1, api.ErrName}, {"if b then n := 1; x[nobody] := 1; end_if;", 2, api.ErrName}, {"n := 1; nobody();", 1, api.ErrName}, {"while b do while nobody do end_while; end_while;", 1, api.ErrName},
		{"p := 1;", 0, api.ErrName}, {"i := b;", 0, api.ErrKind}, {"n := 1; x := 1;", 1, api.ErrKind}, {"t := 1;", 0, api.ErrKind}, {"exit;", 0, api.ErrKind}, {"while b do exit; end_while; exit;", 2, api.ErrKind}, {"t(q := b);", 0, api.ErrKind}, {"t(in := b, in := b);", 0, api.ErrKind}, {"case n of 1: n := 1; 2, 1: end_case;", 0, api.ErrKind},
		{"n := b;", 0, api.ErrType}, {"if n then end_if;", 0, api.ErrType}, {"repeat n := 1; n := d; until b end_repeat;", 2, api.ErrType}, {"for e := t#1s to t#2s do end_for;", 0, api.ErrType}, {"case b of 1: end_case;", 0, api.ErrType}, {"x[b] := 1;", 0, api.ErrType}, {"t(pt := 5);", 0, api.ErrType},
		{"n := 40000;", 0, api.ErrRange}, {"n := 1; n := n + 40000;", 1, api.ErrRange}, {"for n := 1 to 2 by 40000 do end_for;", 0, api.ErrRange}, {"case n of 40000: end_case;", 0, api.ErrRange}, {"x[2147483648] := 1;", 0, api.ErrRange},
		{"if b then n := 1; elsif i then n := 2; else n := 3; n := d; end_if;", 5, api.ErrType}, {"case n of 1: n := 1; 2: n := 2; n := b; else n := d; end_case;", 3, api.ErrType},
	} {
		p := program(c.body)
		refuses(t, p, c.at, c.e, c.body)
		if at, e := typed.Check(p); at != c.at || e != c.e {
			t.Errorf("Check says %d, %d of %s", at, e, c.body)
		}
		if x, at, e := gen.Compile(heads + c.body + " end_program"); at != c.at || e != c.e || !isNothing(x) {
			t.Errorf("Compile says %d, %d of %s", at, e, c.body)
		}
	}
}

// 14.1: variables and names that Check refuses, programs that may not be
func TestGenRefusesOtherThings(t *testing.T) {
	exit := []api.Stmt{{Kind: api.SReturn}, {Kind: api.SExit}}
	for what, c := range map[string]struct {
		p api.Program
		e api.Errno
	}{
		"nothing":                {api.Program{}, api.ErrDecl},
		"a small name":           {api.Program{Name: "p"}, api.ErrDecl},
		"a keyword":              {api.Program{Name: "IF", Body: exit}, api.ErrDecl},
		"65 variables":           {api.Program{Name: "P", Vars: manyVars(65), Body: exit}, api.ErrDecl},
		"a variable of type 5":   {api.Program{Name: "P", Vars: []api.Var{{Name: "A", Type: 5}}, Body: exit}, api.ErrDecl},
		"an array of blocks":     {api.Program{Name: "P", Vars: []api.Var{{Name: "A", Type: 101, Len: 2}}}, api.ErrDecl},
		"a first that is great":  {api.Program{Name: "P", Vars: []api.Var{{Name: "A", Type: api.TInt, Init: 40000}}}, api.ErrDecl},
		"a block as input":       {api.Program{Name: "P", Vars: []api.Var{{Name: "A", Type: 101, Dir: api.DInput}}}, api.ErrDecl},
		"a name twice":           {api.Program{Name: "P", Vars: []api.Var{{Name: "A", Type: 1}, {Name: "A", Type: 2}}, Body: exit}, api.ErrName},
		"the program's name":     {api.Program{Name: "P", Vars: []api.Var{{Name: "P", Type: 1}}, Body: exit}, api.ErrName},
		"kind 10":                {api.Program{Name: "P", Body: append(exit, api.Stmt{Kind: 10})}, api.ErrDecl},
		"no kind":                {api.Program{Name: "P", Body: []api.Stmt{{}}}, api.ErrDecl},
		"an SExit with a name":   {api.Program{Name: "P", Body: []api.Stmt{{Kind: api.SExit, Name: "A"}}}, api.ErrDecl},
		"an SFor by 0":           {api.Program{Name: "P", Vars: vars, Body: []api.Stmt{{Kind: api.SFor, Name: "N", X: number5, Y: number5}}}, api.ErrDecl},
		"an arm without a label": {api.Program{Name: "P", Vars: vars, Body: []api.Stmt{{Kind: api.SCase, X: number5, Arms: []api.Arm{{}}}}}, api.ErrDecl},
		"an SIf without an X":    {api.Program{Name: "P", Vars: vars, Body: []api.Stmt{{Kind: api.SIf}}}, api.ErrDecl},
		"401 statements":         {api.Program{Name: "P", Body: slices.Repeat([]api.Stmt{{Kind: api.SReturn}}, 401)}, api.ErrDecl},
		"9 args":                 {api.Program{Name: "P", Vars: vars, Body: []api.Stmt{{Kind: api.SCall, Name: "T", Args: slices.Repeat([]api.Arg{{Name: "IN", X: parts("b")}}, 9)}}}, api.ErrDecl},
		"an expression of 501":   {api.Program{Name: "P", Vars: vars, Body: []api.Stmt{{Kind: api.SSet, Name: "N", X: make([]api.Part, 501)}}}, api.ErrDecl},
		"33 arms":                {api.Program{Name: "P", Vars: vars, Body: []api.Stmt{{Kind: api.SCase, X: parts("n"), Arms: make([]api.Arm, 33)}}}, api.ErrDecl},
	} {
		refuses(t, c.p, 0, c.e, what)
	}
	deepest := []api.Stmt{{Kind: api.SExit}}
	for range 200000 {
		deepest = []api.Stmt{{Kind: api.SWhile, X: parts("b"), Body: deepest}}
	}
	refuses(t, api.Program{Name: "P", Vars: vars, Body: deepest}, 0, api.ErrDecl, "200000 deep")
}

// compileIs fails the test unless Compile tells of the text what Parse refuses, or what Gen tells of the program.
func compileIs(t *testing.T, text string) (at int, e api.Errno) {
	t.Helper()
	x, at, e := gen.Compile(text)
	p, f := decl.Parse(text)
	if f.Code != api.OK {
		if !isNothing(x) || at != f.At || e != f.Code {
			t.Errorf("%.100q: %d, %d, want %d, %d", text, at, e, f.At, f.Code)
		}
		return at, e
	}
	want, wantAt, wantE := gen.Gen(p)
	if !same(x, want) || at != wantAt || e != wantE {
		t.Errorf("%.100q: %d, %d, want as Gen %d, %d", text, at, e, wantAt, wantE)
	}
	if e != api.OK && !isNothing(x) {
		t.Errorf("%.100q: %d beside an image", text, e)
	}
	return at, e
}

// 14.2: texts that Parse refuses, with the place
func TestCompileRefuses(t *testing.T) {
	for _, c := range []struct {
		text string
		at   int
		e    api.Errno
	}{
		{"", 0, api.ErrDecl}, {"   ", 3, api.ErrDecl}, {"programm p end_program", 0, api.ErrDecl}, {"program", 7, api.ErrDecl}, {"program if end_program", 8, api.ErrDecl}, {"program p", 9, api.ErrDecl}, {"program p end_program end_program", 22, api.ErrDecl},
		{"program p n 1; end_program", 12, api.ErrStmt}, {"program p n := ; end_program", 15, api.ErrExpr}, {"program p n := 1 end_program", 17, api.ErrStmt}, {"program p n := (1; end_program", 17, api.ErrExpr}, {"program p if b then end_program", 20, api.ErrStmt},
		{"program p ? end_program", 10, api.ErrToken}, {"program p n := 99999999999; end_program", 15, api.ErrToken}, {"program p (* end_program", 10, api.ErrToken}, {"program p n := int#40000; end_program", 15, api.ErrToken}, {"program aaaaaaaaaaaaaaaaaaaaaaaaa end_program", 8, api.ErrToken},
		{"program p var n : int := 40000; end_var end_program", 25, api.ErrDecl}, {"program p var n : real; end_var end_program", 18, api.ErrDecl}, {"program p var_input x : array[0..1] of int; end_var end_program", 24, api.ErrDecl}, {"program p var t : ton := 1; end_var end_program", 22, api.ErrDecl},
		{strings.Repeat(" ", api.MaxBytes+1), 0, api.ErrLong}, {"program p " + strings.Repeat("return; ", 401) + "end_program", 10, api.ErrLong}, {strings.Repeat("; ", 4097), 8192, api.ErrLong},
		{"program p " + strings.Repeat("repeat ", 21), 150, api.ErrLong}, {"\x00", 0, api.ErrToken}, {"\xff\xfe", 0, api.ErrToken},
	} {
		if at, e := compileIs(t, c.text); at != c.at || e != c.e {
			t.Errorf("%.60q: %d, %d, want %d, %d", c.text, at, e, c.at, c.e)
		}
	}
	many := "program p var "
	for i := range 65 {
		many += fmt.Sprint("v", i, " : int; ")
	}
	if at, e := compileIs(t, many+"end_var nobody := 1; end_program"); at != 0 || e != api.ErrLong {
		t.Error(at, e)
	}
}

// 14.2: texts cut anywhere, and with a byte changed anywhere
func TestCompileCutAndChanged(t *testing.T) {
	whole := "program p var n : int := -5; x : array[0..2] of int; t : ton; end_var var_output b : bool; end_var if n < 5 then x[n] := 1 + 2; elsif b then t(in := b, pt := t#5s); end_if; for n := 1 to 5 by 2 do exit; end_for; case n of 1, 2: return; else n := 7 / 0; end_case; end_program"
	if at, e := compileIs(t, whole); at != 0 || e != api.OK {
		t.Error(at, e)
	}
	taken := 0
	for at := range whole {
		compileIs(t, whole[:at])
		compileIs(t, whole[at:])
		for _, c := range []string{"", " ", ";", "0", "9", "x", "-", "#", "\x00", "\xc3"} {
			if _, e := compileIs(t, whole[:at]+c+whole[at+1:]); e == api.OK {
				taken++
			}
		}
	}
	if taken < 50 {
		t.Error(taken)
	}
}

// 14.2: texts with notes and in capitals or not have the same image
func TestCompileTakes(t *testing.T) {
	for _, text1 := range []string{
		"program p var n : int; end_var n := n + 1; end_program", "PROGRAM P VAR N : INT; END_VAR N := N + 1; END_PROGRAM", "(* one *) program p var n : int; end_var // two\n n:=n+1; {three} end_program \t\r\n",
	} {
		x, at, e := gen.Compile(text1)
		if at != 0 || e != api.OK || x.Name != "P" || !slices.Equal(x.Types, []int{api.TInt}) || !slices.Equal(x.First, []int64{0}) || text(x.Code) != "LOAD 0; PUSH INT 1; TWO + INT; STORE 0; END" {
			t.Errorf("%q: %+v, %d, %d", text1, x, at, e)
		}
		if at, e := code.Check(x); at != 0 || e != api.OK {
			t.Error(at, e)
		}
		compileIs(t, text1)
	}
	if x, at, e := gen.Compile("program a_1 end_program"); at != 0 || e != api.OK || x.Name != "A_1" || len(x.Types)+len(x.First)+len(x.In)+len(x.Out) != 0 || text(x.Code) != "END" {
		t.Error(x, at, e)
	}
}

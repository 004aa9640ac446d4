package gen_test

import (
	"fmt"
	"reflect"
	"slices"
	"strings"
	"testing"
	"unsafe"

	"capstan/api"
	"capstan/gen"
)

// whole is a program with statements of each kind.
const whole = `n := n + 1 + 2; x[n] := x[1 + 2]; if b then n := 1; elsif i then n := 2; else n := 3; end_if; while b do exit; end_while; repeat return; until t.q end_repeat;
	for d := 1 to 2 by -3 do n := 7 / 0; end_for; case n of 1, -2: n := 1; 3: else n := 2; end_case; t(in := b, pt := t#5s);`

var (
	oddPart  = api.Part{Kind: 77, N: 77, T: 77, S: "ODD", F: "ODD"}
	oddStmt1 = api.Stmt{Kind: 77, Name: "ODD"}
)

// roomyParts answers the parts with odd ones in the room behind them; the others do so of what they hold.
func roomyParts(l []api.Part) []api.Part {
	if l == nil {
		return nil
	}
	return append(slices.Clone(l), oddPart, oddPart)[:len(l)]
}

func roomyStmts(l []api.Stmt) []api.Stmt {
	if l == nil {
		return nil
	}
	out := slices.Clone(l)
	for i := range out {
		s := &out[i]
		s.Index, s.X, s.Y = roomyParts(s.Index), roomyParts(s.X), roomyParts(s.Y)
		s.Body, s.Else = roomyStmts(s.Body), roomyStmts(s.Else)
		if s.Arms != nil {
			s.Arms = append(slices.Clone(s.Arms), api.Arm{Body: []api.Stmt{oddStmt1}})[:len(s.Arms)]
		}
		for k := range s.Arms {
			s.Arms[k].Labels = append(slices.Clone(s.Arms[k].Labels), 1, 1, 99999)[:len(s.Arms[k].Labels)]
			s.Arms[k].Body = roomyStmts(s.Arms[k].Body)
		}
		if s.Args != nil {
			s.Args = append(slices.Clone(s.Args), api.Arg{Name: "ODD"})[:len(s.Args)]
		}
		for k := range s.Args {
			s.Args[k].X = roomyParts(s.Args[k].X)
		}
	}
	return append(out, oddStmt1, oddStmt1)[:len(l)]
}

func roomy(p api.Program) api.Program {
	p.Vars = append(slices.Clone(p.Vars), api.Var{}, api.Var{Name: "N", Type: 9, Len: 9})[:len(p.Vars)]
	p.Body = roomyStmts(p.Body)
	return p
}

// wide answers what l holds up to the end of its room.
func wide[T any](l []T) []T { return l[:cap(l)] }

// seen tells all of a program, spare room too.
func seen(p api.Program) string {
	var b strings.Builder
	fmt.Fprintf(&b, "%q %+v ", p.Name, wide(p.Vars))
	var stmts func(l []api.Stmt)
	stmts = func(l []api.Stmt) {
		fmt.Fprint(&b, len(l), "{")
		for _, s := range wide(l) {
			fmt.Fprintf(&b, "%d %q %d:%+v %d:%+v %d:%+v %d", s.Kind, s.Name, len(s.Index), wide(s.Index), len(s.X), wide(s.X), len(s.Y), wide(s.Y), s.By)
			stmts(s.Body)
			stmts(s.Else)
			fmt.Fprint(&b, len(s.Arms))
			for _, a := range wide(s.Arms) {
				fmt.Fprintf(&b, "%d:%+v", len(a.Labels), wide(a.Labels))
				stmts(a.Body)
			}
			fmt.Fprint(&b, len(s.Args))
			for _, a := range wide(s.Args) {
				fmt.Fprintf(&b, "%q %d:%+v", a.Name, len(a.X), wide(a.X))
			}
		}
		fmt.Fprint(&b, "}")
	}
	stmts(p.Body)
	return b.String()
}

// R4: programs that are handed in stay, spare room too, and what lies behind lengths is not read
func TestProgramStays(t *testing.T) {
	wrong := program(whole)
	wrong.Body = append(wrong.Body, api.Stmt{Kind: api.SExit})
	long := program(whole)
	long.Body = append(long.Body, slices.Repeat([]api.Stmt{labelled(parts("n"), 32, 16)}, 3)...)
	for what, p := range map[string]api.Program{"right": program(whole), "wrong": wrong, "too long": long, "none": program(""), "nothing": {}, "deep": {Name: "P", Vars: vars, Body: wraps()[5](wraps()[1](wraps()[4](api.Stmt{Kind: api.SReturn}))).Arms[1].Body}} {
		given := roomy(p)
		before := seen(given)
		x, at, e := gen.Gen(given)
		if seen(given) != before {
			t.Errorf("%s: changed: %s, not %s", what, seen(given), before)
		}
		if want, wantAt, wantE := gen.Gen(p); !same(x, want) || at != wantAt || e != wantE {
			t.Errorf("%s: with room behind %d, %d, without %d, %d", what, at, e, wantAt, wantE)
		}
	}
}

// R4: variables and parts that are handed in stay, spare room too
func TestPartsStay(t *testing.T) {
	for _, c := range []coded{
		{"5", api.TInt, ""}, {"n", api.TInt, ""}, {"n + 1 + 2", api.TInt, ""}, {"x[1 + 2] * (3 + 4)", api.TInt, ""}, {"t.q and (1 < 2)", api.TBool, ""}, {"to_int(7 / 0)", api.TInt, ""}, {"n + d", api.TInt, ""}, {"nobody", api.TInt, ""},
	} {
		x := roomyParts(parts(c.x))
		l := append(slices.Clone(vars), api.Var{}, api.Var{Name: "NOBODY", Type: api.TInt})[:len(vars)]
		before, varsBefore := slices.Clone(wide(x)), slices.Clone(wide(l))
		out, e := gen.Expr(l, x, c.t)
		if !slices.Equal(wide(x), before) || !slices.Equal(wide(l), varsBefore) {
			t.Errorf("%s is changed", c.x)
		}
		if want, wantE := gen.Expr(vars, parts(c.x), c.t); !slices.Equal(out, want) || e != wantE {
			t.Errorf("%s: with room behind %s, %d, without %s, %d", c.x, text(out), e, text(want), wantE)
		}
	}
}

// spoil writes over all of a list, spare room too.
func spoil[T any](l []T, with T) {
	for k := range wide(l) {
		wide(l)[k] = with
	}
}

// copied answers an image that shares no list with x.
func copied(x api.Image) api.Image {
	return api.Image{Name: x.Name, Types: slices.Clone(x.Types), First: slices.Clone(x.First), In: slices.Clone(x.In), Out: slices.Clone(x.Out), Code: slices.Clone(x.Code)}
}

// R4, R7: no two lists of an answer share memory, nor do two answers, nor an answer and the program; the same call tells the same
func TestAnswersAreNew(t *testing.T) {
	p := program(whole)
	before := seen(p)
	source := heads + whole + " end_program"
	for what, call := range map[string]func() (api.Image, int, api.Errno){
		"Gen":     func() (api.Image, int, api.Errno) { return gen.Gen(p) },
		"Compile": func() (api.Image, int, api.Errno) { return gen.Compile(source) },
	} {
		kept, _, e := call()
		want := copied(kept)
		if e != api.OK {
			t.Fatal(what, e)
		}
		for n := range 5 {
			x, _, _ := call()
			left := copied(x)
			switch n {
			case 0:
				spoil(x.Types, 77)
				left.Types = x.Types
			case 1:
				spoil(x.First, 77)
				left.First = x.First
			case 2:
				spoil(x.In, 77)
				left.In = x.In
			case 3:
				spoil(x.Out, 77)
				left.Out = x.Out
			case 4:
				spoil(x.Code, api.Instr{Op: 77})
				left.Code = x.Code
			}
			if !same(x, left) || !same(kept, want) || seen(p) != before {
				t.Errorf("%s: a change of list %d changes others", what, n)
			}
		}
		if again, _, _ := call(); !same(again, want) {
			t.Errorf("%s tells otherwise the second time", what)
		}
	}
	first, _ := gen.Expr(vars, parts("x[1 + 2] * (3 + 4)"), api.TInt)
	want := slices.Clone(first)
	spoil(first, api.Instr{Op: 77})
	if again, _ := gen.Expr(vars, parts("x[1 + 2] * (3 + 4)"), api.TInt); !slices.Equal(again, want) {
		t.Error("a change of code changes another answer")
	}
}

// R4: an image's name lies neither in the program's name nor in the text
func TestNameIsNew(t *testing.T) {
	p := api.Program{Name: "ALONE"}
	if x, _, _ := gen.Gen(p); x.Name != "ALONE" || unsafe.StringData(x.Name) == unsafe.StringData(p.Name) {
		t.Error("Gen answers the name that it was given")
	}
	source := "PROGRAM ALONE END_PROGRAM"
	x, _, _ := gen.Compile(source)
	from, to := reflect.ValueOf(unsafe.StringData(source)).Pointer(), reflect.ValueOf(unsafe.StringData(x.Name)).Pointer()
	if x.Name != "ALONE" || to >= from && to < from+uintptr(len(source)) {
		t.Error("Compile answers a piece of the text")
	}
}

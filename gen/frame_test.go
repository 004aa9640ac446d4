package gen_test

import (
	"fmt"
	"slices"
	"strings"
	"testing"

	"capstan/api"
	"capstan/code"
	"capstan/decl"
	"capstan/expr"
	"capstan/gen"
	"capstan/lex"
)

// heads are variables of all kinds, as a program's text has them. Their cells: I 0, IN1 1, ID 2, IT 3, O 4, ON 5, B 6, N 7, D 8, E 9, XB 10, X 12, XD 16, XT 17, T 49, F 55, G 61, C 67, K 73, R 79, W 82, S 85, Z 88, Q 91.
const heads = `program p
	var_input i : bool; in1 : int := 5; id : dint; it : time; end_var
	var_output o : bool := true; on : int := -7; end_var
	var b : bool; n : int := 3; d : dint := -70000; e : time := t#5s;
		xb : array[0..1] of bool; x : array[0..3] of int; xd : array[0..0] of dint; xt : array[0..31] of time;
		t : ton; f : tof; g : tp; c : ctu; k : ctd; r : r_trig; w : f_trig; s : sr; z : rs; q : quad;
	end_var `

// program answers the program that has these statements behind the heads.
func program(body string) api.Program {
	p, f := decl.Parse(heads + body + " end_program")
	if f != (api.Fault{}) {
		panic(fmt.Sprint(body, f))
	}
	return p
}

var vars = program("").Vars

// parts answers the parts of an expression's text.
func parts(text string) []api.Part {
	l, f := lex.Tokens(text)
	x, next, g := expr.Parse(l, 0)
	if f != (api.Fault{}) || g != (api.Fault{}) || next != len(l)-1 {
		panic(fmt.Sprint(text, f, g))
	}
	return x
}

func number(n int64) api.Part { return api.Part{Kind: api.PNum, N: n} }

func of(t int, n int64) api.Part { return api.Part{Kind: api.PNum, N: n, T: t} }

func op(n int64) api.Part { return api.Part{Kind: api.POp, N: n} }

func variable(s string) api.Part { return api.Part{Kind: api.PVar, S: s} }

func index(s string) api.Part { return api.Part{Kind: api.PIndex, S: s} }

func field(s, f string) api.Part { return api.Part{Kind: api.PField, S: s, F: f} }

func to(t int) api.Part { return api.Part{Kind: api.PTo, T: t} }

var (
	typeNames  = [...]string{1: "BOOL", "INT", "DINT", "TIME"}
	opNames    = [...]string{1: "+", "-", "*", "/", "MOD", "AND", "OR", "XOR", "=", "<>", "<", "<=", ">", ">=", "-", "NOT"}
	blockNames = [...]string{1: "TON", "TOF", "TP", "CTU", "CTD", "R_TRIG", "F_TRIG", "SR", "RS", "QUAD"}
)

// named answers the name with the number n, or the number, if there is none.
func named(names []string, n int) string {
	if n < 1 || n >= len(names) {
		return fmt.Sprint("?", n)
	}
	return names[n]
}

// line answers an instruction as a text, with names of types, operations and kinds of blocks; no two have the same one.
func line(i api.Instr) string {
	a, b := fmt.Sprint(i.A), fmt.Sprint(i.B)
	s, has := "", api.Instr{Op: i.Op, A: i.A, B: i.B}
	switch i.Op {
	case api.IPush:
		s, has = "PUSH "+named(typeNames[:], i.A)+fmt.Sprint(" ", i.N), api.Instr{Op: i.Op, A: i.A, N: i.N}
	case api.ILoad:
		s, has.B = "LOAD "+a, 0
	case api.IStore:
		s, has.B = "STORE "+a, 0
	case api.ILoadX:
		s = "LOADX " + a + " " + b
	case api.IStoreX:
		s = "STOREX " + a + " " + b
	case api.ITwo:
		s = "TWO " + named(opNames[:], i.A) + " " + named(typeNames[:], i.B)
	case api.IOne:
		s = "ONE " + named(opNames[:], i.A) + " " + named(typeNames[:], i.B)
	case api.ITo:
		s = "TO " + named(typeNames[:], i.A) + " " + named(typeNames[:], i.B)
	case api.IJump:
		s, has.B = "JUMP "+a, 0
	case api.IFalse:
		s, has.B = "FALSE "+a, 0
	case api.ICall:
		s = "CALL " + named(blockNames[:], i.A) + " " + b
	case api.IEnd:
		s, has = "END", api.Instr{Op: i.Op}
	}
	if s == "" || has != i {
		return fmt.Sprintf("%+v", i)
	}
	return s
}

func lines(code []api.Instr) []string {
	var out []string
	for _, i := range code {
		out = append(out, line(i))
	}
	return out
}

func text(code []api.Instr) string { return strings.Join(lines(code), "; ") }

// differ tells the first place at which two lists of lines differ, and both lines.
func differ(got, want []string) string {
	for at := range max(len(got), len(want)) {
		g, w := "nothing", "nothing"
		if at < len(got) {
			g = got[at]
		}
		if at < len(want) {
			w = want[at]
		}
		if g != w {
			return fmt.Sprintf("at %d of %d: %s, want %s", at, len(got), g, w)
		}
	}
	return ""
}

// isNothing answers whether x is an image without anything.
func isNothing(x api.Image) bool {
	return x.Name == "" && len(x.Types)+len(x.First)+len(x.In)+len(x.Out)+len(x.Code) == 0
}

func same(x, y api.Image) bool {
	return x.Name == y.Name && slices.Equal(x.Types, y.Types) && slices.Equal(x.First, y.First) && slices.Equal(x.In, y.In) && slices.Equal(x.Out, y.Out) && slices.Equal(x.Code, y.Code)
}

// makes fails the test unless Gen makes an image of p that has this code, and that may be; it answers it.
func makes(t *testing.T, p api.Program, want []string, what string) api.Image {
	t.Helper()
	x, at, e := gen.Gen(p)
	if at != 0 || e != api.OK {
		t.Errorf("%.300s: %d, %d", what, at, e)
		return api.Image{}
	}
	if d := differ(lines(x.Code), want); d != "" {
		t.Errorf("%.300s: %s", what, d)
	}
	if at, e := code.Check(x); at != 0 || e != api.OK {
		t.Errorf("%.300s: the image may not be: %d, %d", what, at, e)
	}
	return x
}

// refuses fails the test unless Gen refuses p just so, and answers nothing beside it.
func refuses(t *testing.T, p api.Program, at int, e api.Errno, what string) {
	t.Helper()
	if x, gotAt, got := gen.Gen(p); gotAt != at || got != e || !isNothing(x) {
		t.Errorf("%.300s: %d, %d, want %d, %d; code of %d", what, gotAt, got, at, e, len(x.Code))
	}
}

package ilist_test

import (
	"fmt"
	"slices"
	"strings"
	"testing"

	"capstan/api"
	"capstan/ilist"
	"capstan/verify"
)

// head has variables of all kinds. Their cells: I 0, IN1 1, ID 2, IT 3, O 4, ON 5, OD 6, OT 7, B 8, N 9, D 10, E 11, XB 12, X 14, XD 18, XT 19, T 51, F 57, G 63, C 69, K 75, R 81, W 84, S 87, Z 90, Q 93.
const head = `program p
	var_input i : bool; in1 : int := 5; id : dint; it : time; end_var
	var_output o : bool := true; on : int := -7; od : dint; ot : time; end_var
	var b : bool; n : int := 3; d : dint := -70000; e : time := t#5s;
		xb : array[0..1] of bool; x : array[0..3] of int; xd : array[0..0] of dint; xt : array[0..31] of time;
		t : ton; f : tof; g : tp; c : ctu; k : ctd; r : r_trig; w : f_trig; s : sr; z : rs; q : quad;
	end_var end_program`

var (
	typeNames  = [...]string{1: "BOOL", "INT", "DINT", "TIME"}
	opNames    = [...]string{1: "+", "-", "*", "/", "MOD", "AND", "OR", "XOR", "=", "<>", "<", "<=", ">", ">=", "NEG", "NOT"}
	blockNames = [...]string{1: "TON", "TOF", "TP", "CTU", "CTD", "R_TRIG", "F_TRIG", "SR", "RS", "QUAD"}
)

// named answers the name with the number n, or the number, if there is none.
func named(names []string, n int) string {
	if n < 1 || n >= len(names) {
		return fmt.Sprint("?", n)
	}
	return names[n]
}

// shown answers an instruction as a text, with names of types, operations and kinds of blocks; no two have the same one.
func shown(i api.Instr) string {
	a, b := fmt.Sprint(i.A), fmt.Sprint(i.B)
	s, has := "", api.Instr{Op: i.Op, A: i.A, B: i.B}
	switch i.Op {
	case api.IPush:
		s, has = "PUSH "+named(typeNames[:], i.A)+fmt.Sprint(" ", i.N), api.Instr{Op: i.Op, A: i.A, N: i.N}
	case api.ILoad:
		s, has.B = "LOAD "+a, 0
	case api.IStore:
		s, has.B = "STORE "+a, 0
	case api.ITwo:
		s = "TWO " + named(opNames[:], i.A) + " " + named(typeNames[:], i.B)
	case api.IOne:
		s = "ONE " + named(opNames[:], i.A) + " " + named(typeNames[:], i.B)
	case api.IJump:
		s, has.B = "JUMP "+a, 0
	case api.IFalse:
		s, has.B = "FALSE "+a, 0
	case api.ICall:
		s = "CALL " + named(blockNames[:], i.A) + " " + b
	case api.IEnd:
		s, has = "END", api.Instr{Op: i.Op}
	}
	if s == "" || has != i {
		return fmt.Sprintf("%+v", i)
	}
	return s
}

func text(code []api.Instr) string {
	var out []string
	for _, i := range code {
		out = append(out, shown(i))
	}
	return strings.Join(out, "; ")
}

// isNothing answers whether x is an image without anything.
func isNothing(x api.Image) bool {
	return x.Name == "" && len(x.Types)+len(x.First)+len(x.In)+len(x.Out)+len(x.Code) == 0
}

func same(x, y api.Image) bool {
	return x.Name == y.Name && slices.Equal(x.Types, y.Types) && slices.Equal(x.First, y.First) && slices.Equal(x.In, y.In) && slices.Equal(x.Out, y.Out) && slices.Equal(x.Code, y.Code)
}

// made answers the image of a head and lines, and fails the test, if there is none, or chapter 15 refuses it.
func made(t *testing.T, head, lines string) api.Image {
	t.Helper()
	x, at, e := ilist.Assemble(head, lines)
	if at != 0 || e != api.OK {
		t.Errorf("%.300s: %d, %d", lines, at, e)
		return api.Image{}
	}
	if at, e := verify.Check(x); at != 0 || e != api.OK {
		t.Errorf("%.300s: not verified: %d, %d", lines, at, e)
	}
	return x
}

// makes fails the test unless the lines, behind head, have this code and, behind all, END.
func makes(t *testing.T, lines, want string) {
	t.Helper()
	if want != "" {
		want += "; "
	}
	if got := text(made(t, head, lines).Code); got != want+"END" {
		t.Errorf("%.300s: %.3000s, want %.3000sEND", lines, got, want)
	}
}

// refuses fails the test unless the lines, behind head, are refused just so, with nothing beside it.
func refuses(t *testing.T, lines string, at int, e api.Errno) {
	t.Helper()
	refusesOf(t, head, lines, at, e)
}

func refusesOf(t *testing.T, head, lines string, at int, e api.Errno) {
	t.Helper()
	if x, gotAt, got := ilist.Assemble(head, lines); gotAt != at || got != e || !isNothing(x) {
		t.Errorf("%.300s, %.300s: %d, %d, want %d, %d; code of %d", head, lines, gotAt, got, at, e, len(x.Code))
	}
}

// placed answers the text without its ^, and the place of that.
func placed(marked string) (text string, at int) {
	before, behind, ok := strings.Cut(marked, "^")
	if !ok {
		panic("no place is marked in " + marked)
	}
	return before + behind, len(before)
}

// refusal is lines with a ^ ahead of the place of their error.
type refusal struct {
	lines string
	e     api.Errno
}

func refusesAll(t *testing.T, l []refusal) {
	t.Helper()
	for _, c := range l {
		lines, at := placed(c.lines)
		refuses(t, lines, at, c.e)
	}
}

package verify_test

import (
	"cmp"
	"fmt"
	"strings"
	"testing"

	"capstan/api"
	"capstan/code"
	"capstan/decl"
	"capstan/gen"
	"capstan/typed"
	"capstan/verify"
)

// heads declares variables of each type, arrays and blocks, for the bodies of programs.
const heads = `program p
	var_input i : bool; in1 : int; end_var
	var_output o : bool; on : int; end_var
	var b : bool; n : int; d : dint; e : time;
		xb : array[0..1] of bool; x : array[0..3] of int; xd : array[0..7] of dint; xt : array[0..31] of time;
		t : ton; k : ctu; r : r_trig; s : sr; q : quad;
	end_var `

func program(t *testing.T, body string) api.Program {
	t.Helper()
	p, f := decl.Parse(heads + body + " end_program")
	if f.Code != api.OK {
		t.Fatalf("%.300s: %v", body, f)
	}
	return p
}

// deepest answers how much lies on the stack at most in the code of any expression of the statements.
func deepest(t *testing.T, vars []api.Var, list []api.Stmt) int {
	t.Helper()
	most := 0
	look := func(x []api.Part, y int) {
		l, e := gen.Expr(vars, x, y)
		if e != api.OK {
			t.Fatal(x, y, e)
		}
		lies := 0
		for _, i := range l {
			lies += 1 - takenBy(i.Op)
			most = max(most, lies)
		}
	}
	for _, s := range list {
		_, v, _ := typed.Place(vars, s.Name)
		if len(s.Index) > 0 {
			look(s.Index, indexType(vars, s.Index))
		}
		switch s.Kind {
		case api.SSet:
			look(s.X, v.Type)
		case api.SIf, api.SWhile, api.SRepeat:
			look(s.X, api.TBool)
		case api.SFor:
			look(s.X, v.Type)
			look(s.Y, v.Type)
		case api.SCase:
			y, _ := typed.Type(vars, s.X)
			look(s.X, cmp.Or(y, api.TDint))
		}
		for _, a := range s.Args {
			look(a.X, fieldType(v, a.Name))
		}
		most = max(most, deepest(t, vars, s.Body), deepest(t, vars, s.Else))
		for _, a := range s.Arms {
			most = max(most, deepest(t, vars, a.Body))
		}
	}
	return most
}

// takenBy answers how many an instruction of an expression takes, which leaves one.
func takenBy(op int) int {
	return map[int]int{api.ILoadX: 1, api.ITwo: 2, api.IOne: 1, api.ITo: 1}[op]
}

func indexType(vars []api.Var, x []api.Part) int {
	if typed.Fits(vars, x, api.TInt) == api.OK {
		return api.TInt
	}
	return api.TDint
}

func fieldType(v api.Var, name string) int {
	fields, _ := typed.Fields(v.Type - api.Block)
	for _, f := range fields {
		if f.Name == name {
			return f.Type
		}
	}
	return 0
}

// holdsProgram fails the test unless the program's image is verified, and as deep as its deepest expression, and one, at most. It answers how deep it is, and the image.
func holdsProgram(t *testing.T, p api.Program) (int, api.Image) {
	t.Helper()
	x, at, e := gen.Gen(p)
	if e != api.OK {
		t.Fatal(at, e)
	}
	got := holds(t, x)
	if got.e != api.OK || got.at != 0 {
		t.Fatalf("%s: not verified: %d, %d", brief(x), got.at, got.e)
	}
	if most := deepest(t, p.Vars, p.Body); got.deep > most+1 {
		t.Errorf("%s: %d deep, the deepest expression is %d", brief(x), got.deep, most)
	}
	return got.deep, x
}

// 15.3: programs with each kind of statement are verified; how deep they are; of which instructions none leads to them
func TestStatements(t *testing.T) {
	for _, c := range []struct {
		body string
		deep int
		not  int // how many instructions are not reached
	}{
		{"", 0, 0}, {"return;", 0, 1}, {"return; n := 1 + n;", 0, 5},
		{"n := 1;", 1, 0}, {"n := n + 1;", 2, 0}, {"n := 1 + 2;", 1, 0}, {"b := n < 5;", 2, 0}, {"e := to_time(d);", 1, 0}, {"n := - n;", 1, 0}, {"b := not b and t.q;", 2, 0}, {"n := n + (n + n);", 3, 0}, {"n := n + n + n;", 2, 0},
		{"x[n] := 1;", 2, 0}, {"x[d] := n + 1;", 3, 0}, {"xb[40000] := b;", 2, 0}, {"xt[x[xd[0]]] := xt[n] + e;", 3, 0}, {"n := x[n + n];", 2, 0}, {"n := n + x[n + n];", 3, 0},
		{"if b then end_if;", 1, 0}, {"if b then n := 1; end_if;", 1, 0}, {"if n < 5 then n := 1; else n := n + 1; end_if;", 2, 0}, {"if b then elsif i then n := n + 1; else return; end_if;", 2, 0}, {"if b then return; else n := 1; end_if;", 1, 1}, {"if b then return; end_if; n := 1;", 1, 0},
		{"while b do n := n + 1; end_while;", 2, 0}, {"while true do end_while;", 1, 0}, {"while b do exit; end_while;", 1, 1}, {"while b do exit; n := 1; end_while;", 1, 3}, {"while b do return; end_while;", 1, 1},
		{"repeat n := n + 1; until n > 5 end_repeat;", 2, 0}, {"repeat until b end_repeat;", 1, 0}, {"repeat exit; until b end_repeat;", 0, 2}, {"repeat return; until b end_repeat;", 0, 3},
		{"for n := 1 to 5 do end_for;", 2, 0}, {"for d := 1 to d + (d + d) by -1 do n := 1; end_for;", 3, 0}, {"for n := n + (n + n) to 1 do exit; end_for;", 3, 5},
		{"case n of 1: end_case;", 2, 0}, {"case n + 1 of 1, 2, 3: n := 1; 4: return; else n := 2; end_case;", 2, 1}, {"case d of -70000: n := 1; end_case;", 2, 0}, {"case n + (n + n) of 1: end_case;", 3, 0}, {"case 5 of 70000: else n := n + 1; end_case;", 2, 0},
		{"t();", 0, 0}, {"t(in := b, pt := t#5s);", 1, 0}, {"k(cu := b and (i or o), pv := n + 1);", 3, 0}, {"r(clk := b); s(s1 := r.q); q(a := b, b := i, r := s.q1); d := q.cv;", 1, 0},
	} {
		deep, x := holdsProgram(t, program(t, c.body))
		reached, e := verify.Reached(x)
		if not := strings.Count(shown(reached), "0"); deep != c.deep || not != c.not || e != api.OK {
			t.Errorf("%s: %d deep, %s reached", c.body, deep, shown(reached))
		}
	}
}

// nested answers a whole from the inside on, with so many around it.
func nested(inner string, many int, before, behind string) string {
	return strings.Repeat(before, many) + inner + strings.Repeat(behind, many)
}

// 15.3: expressions as deep as may be, wherever they stand
func TestDeepestExpressions(t *testing.T) {
	number := nested("n", api.MaxDepth-1, "n + (", ")")
	dint := nested("d", api.MaxDepth-1, "d + (", ")")
	truth := nested("b", api.MaxDepth-1, "b or (", ")")
	left := nested("n", api.MaxDepth-1, "(", " + n)")
	for body, want := range map[string]int{
		"n := " + number: 24, "x[n] := " + number: 25, "x[" + number + "] := " + number: 25, "xd[" + dint + "] := 1": 24, "b := " + truth: 24, "n := " + left: 2, "x[n] := " + left: 3,
		"n := " + nested("n", api.MaxDepth-1, "- ", ""): 1, "n := " + nested("n", api.MaxDepth-1, "x[", "]"): 1, "n := " + nested("n", api.MaxDepth-1, "to_int(", ")"): 1, "n := " + nested("7 / 0", 12, "7 / 0 + (", ")"): 14,
		"if " + truth + " then end_if": 24, "while " + truth + " do end_while": 24, "repeat until " + truth + " end_repeat": 24,
		"for n := " + number + " to " + number + " do end_for": 24, "case " + number + " of 1: end_case": 24, "case " + dint + " of 1: else end_case": 24,
		"k(cu := " + truth + ", pv := " + number + ")": 24,
	} {
		if deep, _ := holdsProgram(t, program(t, body+";")); deep != want {
			t.Errorf("%.200s: %d deep, not %d", body, deep, want)
		}
	}
}

// 15.3: statements as deep as may be, of each kind, within a loop and behind a RETURN too
func TestDeepestStatements(t *testing.T) {
	for _, around := range [][2]string{
		{"if b then ", " end_if;"}, {"if b then else n := 1; ", " end_if;"}, {"while b do ", " end_while;"}, {"repeat ", " until b end_repeat;"}, {"for n := 1 to 5 do ", " end_for;"}, {"case n of 1: ", " end_case;"}, {"case n of 1: else ", " end_case;"},
		{"while b do exit; ", " exit; end_while;"}, {"repeat if b then exit; end_if; ", " until b end_repeat;"}, {"for n := 1 to 5 do return; ", " end_for;"},
	} {
		for _, inner := range []string{"n := n + 1;", "return;", "t(in := b);", "x[n] := n;"} {
			many := 19
			if strings.Contains(around[0], "if b then exit") {
				many-- // that EXIT is one deeper than what stands beside its IF
			}
			whole := nested(inner, many, around[0], around[1])
			holdsProgram(t, program(t, whole))
			holdsProgram(t, program(t, "return; "+whole+" n := 1;"))
		}
	}
	mixed := "n := n + (n + 1);"
	for range 3 {
		mixed = "while b do repeat for n := 1 to 5 do case n of 1, 2: if b then " + mixed + " exit; end_if; else exit; end_case; end_for; until i end_repeat; end_while;"
	}
	holdsProgram(t, program(t, nested(mixed, 4, "if i then ", " else return; end_if;")))
}

// 15.3: programs with as much code as may be
func TestLongestPrograms(t *testing.T) {
	for _, c := range []struct {
		body  string
		times int
	}{
		{"for n := 1 to 2 do end_for;", 372}, {"q(a := b, b := b, r := b);", 400}, {"case n of 1, 2, 3, 4, 5, 6, 7, 8: n := 1; end_case;", 92}, {"if b then return; elsif i then n := 1; else n := 2; end_if;", 300}, {"while b do if i then exit; end_if; end_while;", 133}, {"x[n] := x[n] + 1;", 400}, {"repeat exit; until b end_repeat;", 200},
	} {
		p := program(t, c.body)
		one := p.Body
		for len(p.Body) < c.times {
			p.Body = append(p.Body, one...)
		}
		for {
			if _, _, e := gen.Gen(p); e == api.OK {
				break
			}
			p.Body = p.Body[1:]
		}
		if _, x := holdsProgram(t, p); len(x.Code) < 600 {
			t.Errorf("%s: just %d", c.body, len(x.Code))
		}
	}
}

// 15.3: images that are verified still are so when they were bytes
func TestDecoded(t *testing.T) {
	p := program(t, "for n := 1 to 5 do x[n] := n + (n + 1); if b then exit; end_if; end_for; t(in := b); return; n := 1;")
	deep, x := holdsProgram(t, p)
	s, e := code.Encode(x)
	y, f := code.Decode(s)
	if d, g := verify.Deep(y); d != deep || e != api.OK || f != api.OK || g != api.OK {
		t.Error(d, deep, e, f, g)
	}
	if at, e := verify.Check(y); at != 0 || e != api.OK {
		t.Error(at, e, fmt.Sprint(y))
	}
}

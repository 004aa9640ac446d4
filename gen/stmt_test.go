package gen_test

import (
	"fmt"
	"strings"
	"testing"

	"capstan/api"
	"capstan/typed"
)

// row is a program's statements, and their code.
type row struct{ body, code string }

// makesAll fails the test unless each row's statements have its code, and the reference says so too.
func makesAll(t *testing.T, rows []row) {
	t.Helper()
	for _, c := range rows {
		p := program(c.body)
		want := strings.Split(c.code, "; ")
		makes(t, p, want, c.body)
		if d := differ(refCode(p), want); d != "" {
			t.Errorf("the reference has %s of %s", d, c.body)
		}
	}
}

// 14.1: SSet, of variables and of arrays' cells, at indexes of each type
func TestSet(t *testing.T) {
	makesAll(t, []row{
		{"n := n + 1;", "LOAD 7; PUSH INT 1; TWO + INT; STORE 7; END"},
		{"d := 1 + 2; b := true; e := t#5s;", "PUSH DINT 3; STORE 8; PUSH BOOL 1; STORE 6; PUSH TIME 5000; STORE 9; END"},
		{"o := i; on := in1; n := on;", "LOAD 0; STORE 4; LOAD 1; STORE 5; LOAD 5; STORE 7; END"},
		{"b := n < 40 + 5;", "LOAD 7; PUSH INT 45; TWO < INT; STORE 6; END"},
		{"n := 7 / 0;", "PUSH INT 7; PUSH INT 0; TWO / INT; STORE 7; END"},
		{"x[1] := 2 * 3;", "PUSH INT 1; PUSH INT 6; STOREX 12 4; END"},
		{"x[n] := n;", "LOAD 7; LOAD 7; STOREX 12 4; END"},
		{"x[n + 1] := x[n];", "LOAD 7; PUSH INT 1; TWO + INT; LOAD 7; LOADX 12 4; STOREX 12 4; END"},
		{"x[int#2] := 1; x[dint#2] := 1; x[d] := 1;", "PUSH INT 2; PUSH INT 1; STOREX 12 4; PUSH DINT 2; PUSH INT 1; STOREX 12 4; LOAD 8; PUSH INT 1; STOREX 12 4; END"},
		{"xd[0] := 70000;", "PUSH INT 0; PUSH DINT 70000; STOREX 16 1; END"},
		{"xb[x[0]] := b;", "PUSH INT 0; LOADX 12 4; LOAD 6; STOREX 10 2; END"},
		{"xt[31] := t.et;", "PUSH INT 31; LOAD 52; STOREX 17 32; END"},
		{"x[to_dint(n)] := 1;", "LOAD 7; TO INT DINT; PUSH INT 1; STOREX 12 4; END"},
		{"x[0 - x[70000]] := 1;", "PUSH INT 0; PUSH DINT 70000; LOADX 12 4; TWO - INT; PUSH INT 1; STOREX 12 4; END"},
	})
}

// 14.1: an index of no type yet is folded for TInt, if its numbers fit that, else for TDint
func TestIndexOfNoTypeYet(t *testing.T) {
	for index, code := range map[string]string{
		"0": "PUSH INT 0", "32767": "PUSH INT 32767", "32768": "PUSH DINT 32768", "-32767": "PUSH INT -32767", "-32768": "PUSH DINT -32768", "2147483647": "PUSH DINT 2147483647",
		"32767 + 1": "PUSH INT -32768", "32768 - 1": "PUSH DINT 32767", "32768 - 32768": "PUSH DINT 0", "200 * 200": "PUSH INT -25536", "7 / 0": "PUSH INT 7; PUSH INT 0; TWO / INT", "70000 / 0": "PUSH DINT 70000; PUSH DINT 0; TWO / DINT",
		"16#ffffffff": "PUSH INT -1", "16#ffff7fff": "PUSH DINT -32769",
	} {
		makesAll(t, []row{{"x[" + index + "] := 5;", code + "; PUSH INT 5; STOREX 12 4; END"}, {"n := x[" + index + "];", code + "; LOADX 12 4; STORE 7; END"}})
	}
}

// 14.1: SIf with and without Else, with an empty Body, with an Else that is an SIf
func TestIf(t *testing.T) {
	makesAll(t, []row{
		{"if b then n := 1; end_if;", "LOAD 6; FALSE 4; PUSH INT 1; STORE 7; END"},
		{"if b then end_if;", "LOAD 6; FALSE 2; END"},
		{"if b then else end_if; n := 1;", "LOAD 6; FALSE 2; PUSH INT 1; STORE 7; END"},
		{"if b then n := 1; else n := 2; end_if;", "LOAD 6; FALSE 5; PUSH INT 1; STORE 7; JUMP 7; PUSH INT 2; STORE 7; END"},
		{"if b then else n := 2; end_if;", "LOAD 6; FALSE 3; JUMP 5; PUSH INT 2; STORE 7; END"},
		{"if true then n := 1; end_if; n := 2;", "PUSH BOOL 1; FALSE 4; PUSH INT 1; STORE 7; PUSH INT 2; STORE 7; END"},
		{"n := 5; if n < 5 then n := 1; n := 2; end_if; n := 3;", "PUSH INT 5; STORE 7; LOAD 7; PUSH INT 5; TWO < INT; FALSE 10; PUSH INT 1; STORE 7; PUSH INT 2; STORE 7; PUSH INT 3; STORE 7; END"},
		{"if b then n := 1; elsif i then n := 2; elsif o then n := 3; else n := 4; end_if;", "LOAD 6; FALSE 5; PUSH INT 1; STORE 7; JUMP 17; LOAD 0; FALSE 10; PUSH INT 2; STORE 7; JUMP 17; LOAD 4; FALSE 15; PUSH INT 3; STORE 7; JUMP 17; PUSH INT 4; STORE 7; END"},
		{"if b then elsif i then end_if; return;", "LOAD 6; FALSE 3; JUMP 5; LOAD 0; FALSE 5; END; END"},
		{"if b then n := 1; else if i then n := 2; end_if; n := 3; end_if;", "LOAD 6; FALSE 5; PUSH INT 1; STORE 7; JUMP 11; LOAD 0; FALSE 9; PUSH INT 2; STORE 7; PUSH INT 3; STORE 7; END"},
		{"if b then if i then n := 1; else n := 2; end_if; else n := 3; end_if;", "LOAD 6; FALSE 10; LOAD 0; FALSE 7; PUSH INT 1; STORE 7; JUMP 9; PUSH INT 2; STORE 7; JUMP 12; PUSH INT 3; STORE 7; END"},
	})
}

// 14.1: SWhile and SRepeat
func TestWhileAndRepeat(t *testing.T) {
	makesAll(t, []row{
		{"while n < 5 do n := n + 1; end_while;", "LOAD 7; PUSH INT 5; TWO < INT; FALSE 9; LOAD 7; PUSH INT 1; TWO + INT; STORE 7; JUMP 0; END"},
		{"b := i; while b do end_while; b := o;", "LOAD 0; STORE 6; LOAD 6; FALSE 5; JUMP 2; LOAD 4; STORE 6; END"},
		{"while b do while i do n := 1; end_while; end_while;", "LOAD 6; FALSE 8; LOAD 0; FALSE 7; PUSH INT 1; STORE 7; JUMP 2; JUMP 0; END"},
		{"repeat n := 1; until b end_repeat;", "PUSH INT 1; STORE 7; LOAD 6; FALSE 0; END"},
		{"b := i; repeat until not b end_repeat; b := o;", "LOAD 0; STORE 6; LOAD 6; ONE NOT BOOL; FALSE 2; LOAD 4; STORE 6; END"},
		{"b := i; repeat n := 1; repeat n := 2; until i end_repeat; until b end_repeat;", "LOAD 0; STORE 6; PUSH INT 1; STORE 7; PUSH INT 2; STORE 7; LOAD 0; FALSE 4; LOAD 6; FALSE 2; END"},
	})
}

// 14.1: SFor, up and down, with variables of each type that may be counted
func TestFor(t *testing.T) {
	makesAll(t, []row{
		{"for n := 1 to 5 do b := i; end_for;", "PUSH INT 1; STORE 7; PUSH INT 5; LOAD 7; TWO >= INT; FALSE 13; LOAD 0; STORE 6; LOAD 7; PUSH INT 1; TWO + INT; STORE 7; JUMP 2; END"},
		{"for n := 5 to 1 by -1 do b := i; end_for;", "PUSH INT 5; STORE 7; PUSH INT 1; LOAD 7; TWO <= INT; FALSE 13; LOAD 0; STORE 6; LOAD 7; PUSH INT -1; TWO + INT; STORE 7; JUMP 2; END"},
		{"for on := in1 to n + (2 + 3) by 32767 do end_for;", "LOAD 1; STORE 5; LOAD 7; PUSH INT 5; TWO + INT; LOAD 5; TWO >= INT; FALSE 13; LOAD 5; PUSH INT 32767; TWO + INT; STORE 5; JUMP 2; END"},
		{"for d := 70000 to d by -2 do end_for; n := 1;", "PUSH DINT 70000; STORE 8; LOAD 8; LOAD 8; TWO <= DINT; FALSE 11; LOAD 8; PUSH DINT -2; TWO + DINT; STORE 8; JUMP 2; PUSH INT 1; STORE 7; END"},
		{"b := i; for d := 1 to 2 by 2147483647 do end_for;", "LOAD 0; STORE 6; PUSH DINT 1; STORE 8; PUSH DINT 2; LOAD 8; TWO >= DINT; FALSE 13; LOAD 8; PUSH DINT 2147483647; TWO + DINT; STORE 8; JUMP 4; END"},
		{"for d := 1 to 2 by -2147483648 do end_for;", "PUSH DINT 1; STORE 8; PUSH DINT 2; LOAD 8; TWO <= DINT; FALSE 11; LOAD 8; PUSH DINT -2147483648; TWO + DINT; STORE 8; JUMP 2; END"},
		{"for n := 1 to 2 by -32768 do end_for;", "PUSH INT 1; STORE 7; PUSH INT 2; LOAD 7; TWO <= INT; FALSE 11; LOAD 7; PUSH INT -32768; TWO + INT; STORE 7; JUMP 2; END"},
		{"for n := 1 to 2 do for d := 3 to 4 do end_for; end_for;", "PUSH INT 1; STORE 7; PUSH INT 2; LOAD 7; TWO >= INT; FALSE 22; PUSH DINT 3; STORE 8; PUSH DINT 4; LOAD 8; TWO >= DINT; FALSE 17; LOAD 8; PUSH DINT 1; TWO + DINT; STORE 8; JUMP 8; LOAD 7; PUSH INT 1; TWO + INT; STORE 7; JUMP 2; END"},
	})
}

// 14.1: SCase with labels and arms of each number, with and without Else, with an X of each type
func TestCase(t *testing.T) {
	makesAll(t, []row{
		{"case n of end_case;", "END"},
		{"case n of else n := 4; end_case;", "PUSH INT 4; STORE 7; END"},
		{"case 7 / 0 of else end_case; n := 4;", "PUSH INT 4; STORE 7; END"},
		{"case n of 1: end_case;", "LOAD 7; PUSH INT 1; TWO = INT; FALSE 5; JUMP 6; JUMP 7; JUMP 7; END"},
		{"case n of 1: n := 3; end_case;", "LOAD 7; PUSH INT 1; TWO = INT; FALSE 5; JUMP 6; JUMP 9; PUSH INT 3; STORE 7; JUMP 9; END"},
		{"case n of 1: n := 3; else n := 4; end_case;", "LOAD 7; PUSH INT 1; TWO = INT; FALSE 5; JUMP 6; JUMP 9; PUSH INT 3; STORE 7; JUMP 11; PUSH INT 4; STORE 7; END"},
		{"case n of 1, 2: n := 3; else n := 4; end_case;", "LOAD 7; PUSH INT 1; TWO = INT; FALSE 5; JUMP 11; LOAD 7; PUSH INT 2; TWO = INT; FALSE 10; JUMP 11; JUMP 14; PUSH INT 3; STORE 7; JUMP 16; PUSH INT 4; STORE 7; END"},
		{"case d of 1, 70000: n := 3; -5: else n := 4; end_case;", "LOAD 8; PUSH DINT 1; TWO = DINT; FALSE 5; JUMP 11; LOAD 8; PUSH DINT 70000; TWO = DINT; FALSE 10; JUMP 11; JUMP 14; PUSH INT 3; STORE 7; JUMP 23; LOAD 8; PUSH DINT -5; TWO = DINT; FALSE 19; JUMP 20; JUMP 21; JUMP 23; PUSH INT 4; STORE 7; END"},
		{"case 1 + 2 of 3: end_case;", "PUSH DINT 3; PUSH DINT 3; TWO = DINT; FALSE 5; JUMP 6; JUMP 7; JUMP 7; END"},
		{"case int#1 + 2 of 3: end_case;", "PUSH INT 3; PUSH INT 3; TWO = INT; FALSE 5; JUMP 6; JUMP 7; JUMP 7; END"},
		{"b := i; case n + 1 * 2 of -32768: return; end_case; b := o;", "LOAD 0; STORE 6; LOAD 7; PUSH INT 2; TWO + INT; PUSH INT -32768; TWO = INT; FALSE 9; JUMP 10; JUMP 12; END; JUMP 12; LOAD 4; STORE 6; END"},
		{"case n of 1: case d of 2: n := 3; end_case; end_case;", "LOAD 7; PUSH INT 1; TWO = INT; FALSE 5; JUMP 6; JUMP 16; LOAD 8; PUSH DINT 2; TWO = DINT; FALSE 11; JUMP 12; JUMP 15; PUSH INT 3; STORE 7; JUMP 15; JUMP 16; END"},
	})
}

// 14.1: SCall of each kind of block, with no args, and with some
func TestCall(t *testing.T) {
	makesAll(t, []row{
		{"t();", "CALL TON 49; END"}, {"f();", "CALL TOF 55; END"}, {"g();", "CALL TP 61; END"}, {"c();", "CALL CTU 67; END"}, {"k();", "CALL CTD 73; END"},
		{"r();", "CALL R_TRIG 79; END"}, {"w();", "CALL F_TRIG 82; END"}, {"s();", "CALL SR 85; END"}, {"z();", "CALL RS 88; END"}, {"q();", "CALL QUAD 91; END"},
		{"t(in := b, pt := t#5s);", "LOAD 6; STORE 49; PUSH TIME 5000; STORE 50; CALL TON 49; END"},
		{"f(pt := e, in := n < 5);", "LOAD 9; STORE 56; LOAD 7; PUSH INT 5; TWO < INT; STORE 55; CALL TOF 55; END"},
		{"g(pt := to_time(1 + 2));", "PUSH TIME 3; STORE 62; CALL TP 61; END"},
		{"c(pv := 1 + 2, r := b, cu := i);", "PUSH INT 3; STORE 69; LOAD 6; STORE 68; LOAD 0; STORE 67; CALL CTU 67; END"},
		{"k(cd := b, ld := true, pv := n);", "LOAD 6; STORE 73; PUSH BOOL 1; STORE 74; LOAD 7; STORE 75; CALL CTD 73; END"},
		{"r(clk := b and true); w(clk := r.q);", "LOAD 6; PUSH BOOL 1; TWO AND BOOL; STORE 79; CALL R_TRIG 79; LOAD 80; STORE 82; CALL F_TRIG 82; END"},
		{"s(s1 := b, r := i); z(s := b, r1 := i);", "LOAD 6; STORE 85; LOAD 0; STORE 86; CALL SR 85; LOAD 6; STORE 88; LOAD 0; STORE 89; CALL RS 88; END"},
		{"q(a := b, b := i, r := false); d := q.cv;", "LOAD 6; STORE 91; LOAD 0; STORE 92; PUSH BOOL 0; STORE 93; CALL QUAD 91; LOAD 94; STORE 8; END"},
	})
}

// 14.1: each field of each kind of block that a call may set, alone
func TestEachField(t *testing.T) {
	values := map[int]row{api.TBool: {"b", "LOAD 1"}, api.TInt: {"5", "PUSH INT 5"}, api.TTime: {"t#5s", "PUSH TIME 5000"}}
	for kind := api.BTon; kind <= api.BQuad; kind++ {
		fields, _ := typed.Fields(kind)
		p := api.Program{Name: "P", Vars: []api.Var{{Name: "A", Type: api.TInt}, {Name: "B", Type: api.TBool}, {Name: "Y", Type: api.Block + kind}}}
		for n, f := range fields {
			if !f.Set {
				continue
			}
			v := values[f.Type]
			p.Body = []api.Stmt{{Kind: api.SCall, Name: "Y", Args: []api.Arg{{Name: f.Name, X: parts(v.body)}}}}
			makes(t, p, []string{v.code, fmt.Sprint("STORE ", 2+n), "CALL " + blockNames[kind] + " 2", "END"}, f.Name)
		}
	}
}

// 14.1: SExit in each kind of loop, in an SIf and an SCase within a loop, in a loop within a loop
func TestExit(t *testing.T) {
	makesAll(t, []row{
		{"while b do exit; end_while;", "LOAD 6; FALSE 4; JUMP 4; JUMP 0; END"},
		{"repeat exit; until b end_repeat;", "JUMP 3; LOAD 6; FALSE 0; END"},
		{"for n := 1 to 5 do exit; end_for;", "PUSH INT 1; STORE 7; PUSH INT 5; LOAD 7; TWO >= INT; FALSE 12; JUMP 12; LOAD 7; PUSH INT 1; TWO + INT; STORE 7; JUMP 2; END"},
		{"while b do exit; exit; end_while; n := 1;", "LOAD 6; FALSE 5; JUMP 5; JUMP 5; JUMP 0; PUSH INT 1; STORE 7; END"},
		{"while b do if i then exit; else exit; end_if; end_while;", "LOAD 6; FALSE 8; LOAD 0; FALSE 6; JUMP 8; JUMP 7; JUMP 8; JUMP 0; END"},
		{"repeat case n of 1: exit; else exit; end_case; until b end_repeat; return;", "LOAD 7; PUSH INT 1; TWO = INT; FALSE 5; JUMP 6; JUMP 8; JUMP 11; JUMP 9; JUMP 11; LOAD 6; FALSE 0; END; END"},
		{"while b do while i do exit; end_while; exit; end_while;", "LOAD 6; FALSE 8; LOAD 0; FALSE 6; JUMP 6; JUMP 2; JUMP 8; JUMP 0; END"},
		{"while b do exit; while i do exit; end_while; end_while;", "LOAD 6; FALSE 8; JUMP 8; LOAD 0; FALSE 7; JUMP 7; JUMP 3; JUMP 0; END"},
		{"repeat exit; while i do if o then exit; end_if; end_while; exit; until b end_repeat;", "JUMP 10; LOAD 0; FALSE 7; LOAD 4; FALSE 6; JUMP 7; JUMP 1; JUMP 10; LOAD 6; FALSE 0; END"},
		{"while b do exit; end_while; repeat exit; until i end_repeat;", "LOAD 6; FALSE 4; JUMP 4; JUMP 0; JUMP 7; LOAD 0; FALSE 4; END"},
		{"for d := 1 to 2 do repeat exit; until b end_repeat; exit; end_for;", "PUSH DINT 1; STORE 8; PUSH DINT 2; LOAD 8; TWO >= DINT; FALSE 15; JUMP 9; LOAD 6; FALSE 6; JUMP 15; LOAD 8; PUSH DINT 1; TWO + DINT; STORE 8; JUMP 2; END"},
	})
}

// 14.1: SReturn; IEnd behind all statements, once
func TestReturnAndEnd(t *testing.T) {
	makesAll(t, []row{
		{"", "END"}, {"return;", "END; END"}, {"return; n := 1; return;", "END; PUSH INT 1; STORE 7; END; END"},
		{"if b then return; end_if; n := 1;", "LOAD 6; FALSE 3; END; PUSH INT 1; STORE 7; END"},
		{"while b do return; end_while;", "LOAD 6; FALSE 4; END; JUMP 0; END"},
		{"n := 1; n := 2; n := 3;", "PUSH INT 1; STORE 7; PUSH INT 2; STORE 7; PUSH INT 3; STORE 7; END"},
	})
	makes(t, api.Program{Name: "P"}, []string{"END"}, "nothing but a name")
	makes(t, api.Program{Name: "P", Vars: []api.Var{}, Body: []api.Stmt{}}, []string{"END"}, "nothing but a name")
}

// wraps are ways in which a statement can stand within another one, one deeper.
func wraps() []func(s api.Stmt) api.Stmt {
	b, n := parts("b"), parts("n")
	set := api.Stmt{Kind: api.SSet, Name: "N", X: parts("5")}
	return []func(s api.Stmt) api.Stmt{
		func(s api.Stmt) api.Stmt { return api.Stmt{Kind: api.SIf, X: b, Body: []api.Stmt{s}} },
		func(s api.Stmt) api.Stmt {
			return api.Stmt{Kind: api.SIf, X: b, Body: []api.Stmt{set}, Else: []api.Stmt{s, set}}
		},
		func(s api.Stmt) api.Stmt { return api.Stmt{Kind: api.SWhile, X: b, Body: []api.Stmt{s}} },
		func(s api.Stmt) api.Stmt { return api.Stmt{Kind: api.SRepeat, X: b, Body: []api.Stmt{set, s}} },
		func(s api.Stmt) api.Stmt {
			return api.Stmt{Kind: api.SFor, Name: "N", X: parts("1"), Y: parts("2"), By: -1, Body: []api.Stmt{s}}
		},
		func(s api.Stmt) api.Stmt {
			return api.Stmt{Kind: api.SCase, X: n, Arms: []api.Arm{{Labels: []int64{1}, Body: []api.Stmt{set}}, {Labels: []int64{2}, Body: []api.Stmt{s}}}}
		},
		func(s api.Stmt) api.Stmt { return api.Stmt{Kind: api.SCase, X: n, Else: []api.Stmt{s}} },
	}
}

// 14.1: statements within statements as deep as may be, in each kind alone, and in all in turn
func TestDeep(t *testing.T) {
	all := wraps()
	for first := range all {
		for _, step := range []int{0, 1, 2, 3} {
			for _, inner := range []api.Stmt{{Kind: api.SReturn}, {Kind: api.SExit}} {
				s := inner
				for depth := range 19 {
					s = all[(first+depth*step)%len(all)](s)
				}
				p := api.Program{Name: "P", Vars: vars, Body: []api.Stmt{s, inner}}
				what := fmt.Sprint("deep from ", first, " by ", step, " with ", inner.Kind)
				if at, e := typed.Check(p); e != api.OK { // an EXIT outside of all loops
					refuses(t, p, at, e, what)
					p.Body = p.Body[:1]
				}
				if at, e := typed.Check(p); e != api.OK {
					refuses(t, p, at, e, what)
					continue
				}
				makes(t, p, refCode(p), what)
				p.Body = []api.Stmt{all[first](s)}
				refuses(t, p, 0, api.ErrDecl, what)
			}
		}
	}
}

// 14.1: the deepest nest of loops, written out
func TestDeepWrittenOut(t *testing.T) {
	body, want := "", []string{}
	for range 19 {
		body += "while b do "
	}
	body += "exit;"
	for n := range 19 {
		want = append(want, "LOAD 6", fmt.Sprint("FALSE ", 39+19-n))
	}
	want = append(want, "JUMP 40")
	for n := range 19 {
		body += " end_while;"
		want = append(want, fmt.Sprint("JUMP ", 2*(18-n)))
	}
	makes(t, program(body), append(want, "END"), body)
}

// 14.1: as many IFs in a chain of ELSIFs as there may be statements
func TestLongChain(t *testing.T) {
	body := "if b then"
	for range 399 {
		body += " elsif b then"
	}
	var want []string
	for n := range 399 {
		want = append(want, "LOAD 6", fmt.Sprint("FALSE ", 3*n+3), "JUMP 1199")
	}
	makes(t, program(body+" end_if;"), append(want, "LOAD 6", "FALSE 1199", "END"), "a chain of 400")
}

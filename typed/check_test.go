package typed_test

import (
	"fmt"
	"math"
	"math/rand"
	"slices"
	"strings"
	"testing"

	"capstan/api"
	"capstan/decl"
	"capstan/stmt"
	"capstan/typed"
)

// checkIs fails the test unless Check answers of p just as told, and as the reference does.
func checkIs(t *testing.T, p api.Program, at int, e api.Errno, what string) {
	t.Helper()
	if gotAt, got := typed.Check(p); gotAt != at || got != e {
		t.Errorf("Check of %s = %d, %d, want %d, %d", what, gotAt, got, at, e)
	}
	if refAt, ref := refCheck(p); refAt != at || ref != e {
		t.Errorf("the reference says %d, %d of %s", refAt, ref, what)
	}
}

// told is a program's statements, and what Check answers of them.
type told struct {
	body string
	at   int
	e    api.Errno
}

func checkAll(t *testing.T, all []told) {
	t.Helper()
	for _, c := range all {
		checkIs(t, program(c.body), c.at, c.e, c.body)
	}
}

// 9.3: statements of each kind that are right
func TestRightStatements(t *testing.T) {
	for _, body := range []string{
		"", "return;", "n := 1 + 2;", "o := i; on := in1; d := 70000; e := t#5s - e; b := n + 1 < 7;", "n := -32767; n := 32767; d := 2147483647; b := true;",
		"xb[0] := b; x[n] := 5; x[d + 1] := n; xd[x[0]] := 70000; xt[2147483647] := t.et; x[int#3] := -5; x[40000] := 1;",
		"if b then elsif n < 5 then else end_if; while not b do end_while; repeat until t.q end_repeat; if 1 < 2 then end_if;",
		"for n := 1 to 5 do end_for; for d := n2d to 70000 by -70000 do end_for;",
		"for on := x[0] to c.cv by 32767 do end_for; for n := 0 to 0 by -32768 do end_for; for d := q.cv to d by 2147483647 do end_for; for d := 0 to 1 by -2147483648 do end_for;",
		"case n of 1, 2, 3: n := 1; -32768: 32767: else return; end_case; case d of 2147483647, -2147483648, 40000: end_case; case 5 of 5, 70000: end_case; case in1 of else end_case; case n + 1 of 1: end_case; case n of end_case;",
		"t(); t(in := b, pt := e); t(pt := t#5s); f(in := i); g(pt := to_time(n)); c(cu := b, r := b, pv := 5); k(cd := b, ld := b, pv := n); r(clk := b); w(clk := b); s(s1 := b, r := b); z(s := b, r1 := b); q(a := b, b := b, r := b);",
		"case n of 1: case n of 1: end_case; 2: case d of 1, 2: end_case; end_case; case n of 1: end_case;",
	} {
		checkIs(t, program(strings.ReplaceAll(body, "n2d", "to_dint(n)")), 0, api.OK, body)
	}
}

// 9.3: statements of each kind that are wrong, in each of their things
func TestWrongStatements(t *testing.T) {
	checkAll(t, []told{
		// SSet
		{"nobody := 1;", 0, api.ErrName}, {"p := 1;", 0, api.ErrName}, {"nobody[0] := 1;", 0, api.ErrName}, {"n := nobody;", 0, api.ErrName}, {"x[nobody] := 1;", 0, api.ErrName},
		{"i := b;", 0, api.ErrKind}, {"in1 := 1;", 0, api.ErrKind}, {"it := t#5s;", 0, api.ErrKind}, {"t := 1;", 0, api.ErrKind}, {"q := 1;", 0, api.ErrKind}, {"x := 1;", 0, api.ErrKind}, {"n[0] := 1;", 0, api.ErrKind}, {"on[0] := 1;", 0, api.ErrKind}, {"t[0] := 1;", 0, api.ErrKind}, {"in1[0] := 1;", 0, api.ErrKind}, {"n := x;", 0, api.ErrKind}, {"n := t.cv;", 0, api.ErrKind}, {"x[x] := 1;", 0, api.ErrKind},
		{"n := b;", 0, api.ErrType}, {"n := d;", 0, api.ErrType}, {"d := n;", 0, api.ErrType}, {"b := 1;", 0, api.ErrType}, {"e := 1;", 0, api.ErrType}, {"x[b] := 1;", 0, api.ErrType}, {"x[e] := 1;", 0, api.ErrType}, {"x[0] := d;", 0, api.ErrType}, {"xt[0] := 5;", 0, api.ErrType}, {"n := b + b;", 0, api.ErrType},
		{"n := 32768;", 0, api.ErrRange}, {"d := 2147483648;", 0, api.ErrRange}, {"d := -2147483648;", 0, api.ErrRange}, {"x[0] := 40000;", 0, api.ErrRange}, {"x[2147483648] := 1;", 0, api.ErrRange}, {"n := n + 40000;", 0, api.ErrRange},
		// SIf, SWhile, SRepeat
		{"if nobody then end_if;", 0, api.ErrName}, {"if x then end_if;", 0, api.ErrKind}, {"if n then end_if;", 0, api.ErrType}, {"if 1 then end_if;", 0, api.ErrType}, {"if e then end_if;", 0, api.ErrType}, {"if 2147483648 then end_if;", 0, api.ErrRange}, {"if n < 40000 then end_if;", 0, api.ErrRange},
		{"while nobody do end_while;", 0, api.ErrName}, {"while t do end_while;", 0, api.ErrKind}, {"while 0 do end_while;", 0, api.ErrType}, {"while d do end_while;", 0, api.ErrType}, {"while 1 < 2147483648 do end_while;", 0, api.ErrRange},
		{"repeat until nobody end_repeat;", 0, api.ErrName}, {"repeat until n.q end_repeat;", 0, api.ErrKind}, {"repeat until 1 + 2 end_repeat;", 0, api.ErrType}, {"repeat until b = (n = 32768) end_repeat;", 0, api.ErrRange},
		// SFor
		{"for nobody := 1 to 2 do end_for;", 0, api.ErrName}, {"for n := nobody to 2 do end_for;", 0, api.ErrName}, {"for n := 1 to nobody do end_for;", 0, api.ErrName},
		{"for in1 := 1 to 2 do end_for;", 0, api.ErrKind}, {"for i := 1 to 2 do end_for;", 0, api.ErrKind}, {"for x := 1 to 2 do end_for;", 0, api.ErrKind}, {"for t := 1 to 2 do end_for;", 0, api.ErrKind}, {"for n := t to 2 do end_for;", 0, api.ErrKind}, {"for n := 1 to x do end_for;", 0, api.ErrKind},
		{"for b := true to true do end_for;", 0, api.ErrType}, {"for e := t#1s to t#2s do end_for;", 0, api.ErrType}, {"for o := 1 to 2 do end_for;", 0, api.ErrType}, {"for n := d to 2 do end_for;", 0, api.ErrType}, {"for n := 1 to b do end_for;", 0, api.ErrType}, {"for d := n to 2 do end_for;", 0, api.ErrType}, {"for d := 1 to n do end_for;", 0, api.ErrType},
		{"for n := 32768 to 2 do end_for;", 0, api.ErrRange}, {"for n := 1 to 32768 do end_for;", 0, api.ErrRange}, {"for n := 1 to 2 by 32768 do end_for;", 0, api.ErrRange}, {"for n := 1 to 2 by -32769 do end_for;", 0, api.ErrRange}, {"for d := 1 to 2147483648 do end_for;", 0, api.ErrRange},
		// SCase
		{"case nobody of end_case;", 0, api.ErrName}, {"case x of end_case;", 0, api.ErrKind}, {"case n of 1, 1: end_case;", 0, api.ErrKind}, {"case n of 1: 1: end_case;", 0, api.ErrKind}, {"case n of 5, 1: 2: 7, 5: end_case;", 0, api.ErrKind}, {"case n of -1: 1: -1: end_case;", 0, api.ErrKind},
		{"case b of end_case;", 0, api.ErrType}, {"case e of 1: end_case;", 0, api.ErrType}, {"case n < 1 of 1: end_case;", 0, api.ErrType}, {"case n of 32768: end_case;", 0, api.ErrRange}, {"case n of -32769: end_case;", 0, api.ErrRange}, {"case n of 1: 2: 3, 4, 32768: end_case;", 0, api.ErrRange}, {"case 2147483648 of 1: end_case;", 0, api.ErrRange},
		// SCall
		{"nobody();", 0, api.ErrName}, {"p();", 0, api.ErrName}, {"t(in := nobody);", 0, api.ErrName}, {"n();", 0, api.ErrKind}, {"x();", 0, api.ErrKind}, {"i(in := b);", 0, api.ErrKind},
		{"t(q := b);", 0, api.ErrKind}, {"t(et := e);", 0, api.ErrKind}, {"t(nobody := b);", 0, api.ErrKind}, {"t(cu := b);", 0, api.ErrKind}, {"t(in := b, in := b);", 0, api.ErrKind}, {"c(cu := b, pv := 5, cu := b);", 0, api.ErrKind}, {"t(in := x);", 0, api.ErrKind}, {"q(cv := d);", 0, api.ErrKind},
		{"t(in := 1);", 0, api.ErrType}, {"t(pt := 5);", 0, api.ErrType}, {"t(in := b, pt := n);", 0, api.ErrType}, {"c(pv := d);", 0, api.ErrType}, {"c(pv := 32768);", 0, api.ErrRange}, {"c(cu := b, pv := 5 + 32768);", 0, api.ErrRange},
		// SExit
		{"exit;", 0, api.ErrKind},
	})
}

// 9.3: each field of each kind of block: whether it may be set
func TestEachFieldSet(t *testing.T) {
	some := map[int]string{api.TBool: "b", api.TInt: "n", api.TDint: "d", api.TTime: "e"}
	for _, v := range vars {
		for _, f := range refFields(v.Type - api.Block) {
			body := fmt.Sprintf("%s(%s := %s);", v.Name, f.name, some[f.t])
			e := api.OK
			if !f.set {
				e = api.ErrKind
			}
			checkIs(t, program(body), 0, e, body)
			read := fmt.Sprintf("%s := %s.%s;", some[f.t], v.Name, f.name)
			checkIs(t, program(read), 0, api.OK, read)
		}
	}
}

// 9.3, R1: which of a statement's things tells
func TestOrderOfThings(t *testing.T) {
	checkAll(t, []told{
		{"nobody := x;", 0, api.ErrName}, {"nobody[b] := n + 40000;", 0, api.ErrName}, {"i := nobody;", 0, api.ErrKind}, {"x := nobody;", 0, api.ErrKind}, {"n[nobody] := 1;", 0, api.ErrKind}, {"t[nobody] := nobody;", 0, api.ErrKind},
		{"x[b] := nobody;", 0, api.ErrType}, {"x[nobody] := t;", 0, api.ErrName}, {"x[2147483648] := nobody;", 0, api.ErrRange}, {"x[e] := 40000;", 0, api.ErrType}, {"x[n + 40000] := d;", 0, api.ErrRange},
		{"for nobody := x to t by 40000 do end_for;", 0, api.ErrName}, {"for in1 := nobody to t do end_for;", 0, api.ErrKind}, {"for i := nobody to 2 do end_for;", 0, api.ErrKind}, {"for e := nobody to x do end_for;", 0, api.ErrType}, {"for b := 1 to 2 by 40000 do end_for;", 0, api.ErrType}, {"for n := x to nobody do end_for;", 0, api.ErrKind}, {"for n := 40000 to nobody by 40000 do end_for;", 0, api.ErrRange}, {"for n := d to 40000 do end_for;", 0, api.ErrType}, {"for n := 1 to nobody by 40000 do end_for;", 0, api.ErrName}, {"for n := 1 to b by 40000 do end_for;", 0, api.ErrType},
		{"case nobody of 1, 1: end_case;", 0, api.ErrKind}, {"case b of 1: 1: end_case;", 0, api.ErrKind}, {"case n of 40000: 40000: end_case;", 0, api.ErrKind}, {"case nobody of 40000: end_case;", 0, api.ErrName}, {"case b of 40000: end_case;", 0, api.ErrType}, {"case n + 40000 of 1: end_case;", 0, api.ErrRange}, {"case n + d of 40000: end_case;", 0, api.ErrType},
		{"nobody(in := x);", 0, api.ErrName}, {"nobody(in := b, in := b);", 0, api.ErrName}, {"n(in := nobody);", 0, api.ErrKind}, {"t(in := nobody, q := b);", 0, api.ErrKind}, {"t(in := nobody, in := b);", 0, api.ErrKind}, {"t(q := nobody);", 0, api.ErrKind}, {"t(in := n, pt := nobody);", 0, api.ErrType}, {"t(pt := nobody, in := n);", 0, api.ErrName}, {"c(pv := 40000, cu := nobody);", 0, api.ErrRange}, {"c(cu := x, pv := 40000);", 0, api.ErrKind},
		// a statement ahead of those within it, and of those behind it
		{"while n do exit; nobody := 1; end_while;", 0, api.ErrType}, {"repeat nobody := 1; until n end_repeat;", 0, api.ErrType}, {"for n := 1 to 2 by 40000 do nobody := 1; end_for;", 0, api.ErrRange}, {"case n of 1: nobody := 1; 1: end_case;", 0, api.ErrKind}, {"n := b; nobody := 1;", 0, api.ErrType}, {"nobody := 1; n := b;", 0, api.ErrName}, {"if b then n := 40000; else nobody := 1; end_if;", 1, api.ErrRange},
	})
}

// 9.3: the number that is told
func TestNumbersOfStatements(t *testing.T) {
	checkAll(t, []told{
		{"n := 1; n := 2; n := b;", 2, api.ErrType},
		{"if b then n := 1; n := 2; else n := 3; end_if; n := b;", 4, api.ErrType},
		{"if b then n := 1; n := 2; else n := b; end_if;", 3, api.ErrType},
		{"if b then n := 1; elsif n then n := b; else n := b; end_if;", 2, api.ErrType},
		{"if b then n := 1; elsif b then n := 1; else n := b; end_if;", 4, api.ErrType},
		{"if b then n := 1; elsif b then n := 1; else n := 1; end_if; exit;", 5, api.ErrKind},
		{"case n of 1: n := 1; n := 2; 2: n := 3; 3: else n := 4; end_case; exit;", 5, api.ErrKind},
		{"case n of 1: n := 1; n := 2; 2: n := 3; 3: else n := b; end_case;", 4, api.ErrType},
		{"case n of 1: n := 1; 2: n := 3; n := b; else n := b; end_case;", 3, api.ErrType},
		{"case n of 1: case d of 1: n := 1; end_case; 2: while b do n := b; end_while; end_case;", 4, api.ErrType},
		{"while b do repeat for n := 1 to 2 do n := b; end_for; until b end_repeat; end_while;", 3, api.ErrType},
		{"while b do repeat for n := 1 to 2 do n := 1; end_for; n := 2; until b end_repeat; n := 3; end_while; n := b;", 6, api.ErrType},
		{"return; t(); x[0] := 1; x[b] := 1;", 3, api.ErrType},
		{strings.Repeat("n := 1; ", 399) + "n := b;", 399, api.ErrType},
		{"n := 1;" + strings.Repeat("if b then ", 20) + strings.Repeat("end_if; ", 20) + "n := b;", 21, api.ErrType},
	})
	bodies := slices.Repeat([]api.Stmt{{Kind: api.SReturn}}, 400)
	for i := range bodies {
		p := program("")
		p.Body = slices.Clone(bodies)
		p.Body[i].Kind = api.SExit
		checkIs(t, p, i, api.ErrKind, fmt.Sprint("an EXIT at ", i))
	}
}

// elsifs answers an IF with n more of them as ELSIFs, and s in the last one's Else.
func elsifs(n int, s []api.Stmt) []api.Stmt {
	for range n + 1 {
		s = []api.Stmt{{Kind: api.SIf, X: []api.Part{variable("B")}, Else: s}}
	}
	return s
}

// 9.3: as many ELSIFs as there may be
func TestManyElsifs(t *testing.T) {
	p := program("")
	p.Body = elsifs(398, []api.Stmt{{Kind: api.SExit}})
	checkIs(t, p, 399, api.ErrKind, "an EXIT behind 398 ELSIFs")
	p.Body = elsifs(398, []api.Stmt{{Kind: api.SReturn}})
	checkIs(t, p, 0, api.OK, "a RETURN behind 398 ELSIFs")
	p.Body = elsifs(399, []api.Stmt{{Kind: api.SReturn}})
	if at, e := typed.Check(p); at != 0 || e != api.ErrDecl {
		t.Error(at, e)
	}
}

// 9.3: where an EXIT may stand
func TestExits(t *testing.T) {
	loops := []string{"while b do @ end_while;", "repeat @ until b end_repeat;", "for n := 1 to 2 do @ end_for;"}
	others := []string{"@", "if b then @ end_if;", "if b then else @ end_if;", "if b then elsif b then @ end_if;", "if b then elsif b then else @ end_if;", "case n of 1: @ end_case;", "case n of 1: return; 2: @ end_case;", "case n of 1: else @ end_case;"}
	ahead := []int{0, 1, 1, 2, 2, 1, 2, 1}
	within := func(frame, body string) string { return strings.Replace(frame, "@", body, 1) }
	for i, o := range others {
		p, at := program(within(o, "exit;")), ahead[i]
		checkIs(t, p, at, api.ErrKind, within(o, "exit;"))
		for _, l := range loops {
			for _, in := range others {
				body := within(o, within(l, within(in, "exit;")))
				checkIs(t, program(body), 0, api.OK, body)
			}
			behind := within(l, "exit;") + within(o, "exit;")
			checkIs(t, program(behind), 2+at, api.ErrKind, behind)
			for _, inner := range loops {
				body := within(l, within(inner, "exit;")+within(o, "exit;"))
				checkIs(t, program(body), 0, api.OK, body)
			}
		}
	}
}

// 9.3: By and labels at the edges of both types
func TestByAndLabelsAtTheEdges(t *testing.T) {
	for _, n := range edges {
		if n == 1<<31 {
			continue
		}
		for name, y := range map[string]int{"N": api.TInt, "D": api.TDint, "ON": api.TInt} {
			e := api.OK
			if !refHolds(y, n) {
				e = api.ErrRange
			}
			p := program("")
			if n != 0 {
				p.Body = []api.Stmt{{Kind: api.SFor, Name: name, X: parts("1"), Y: parts("2"), By: n}}
				checkIs(t, p, 0, e, fmt.Sprint("BY ", n, " of ", name))
			}
			p.Body = []api.Stmt{{Kind: api.SCase, X: []api.Part{variable(name)}, Arms: []api.Arm{{Labels: []int64{n}}}}}
			checkIs(t, p, 0, e, fmt.Sprint("label ", n, " of ", name))
			p.Body[0].Arms = []api.Arm{{Labels: []int64{3, 2}}, {Labels: []int64{-3, -2, n}}}
			checkIs(t, p, 0, e, fmt.Sprint("last label ", n, " of ", name))
		}
		p := program("")
		p.Body = []api.Stmt{{Kind: api.SCase, X: parts("5 + 6"), Arms: []api.Arm{{Labels: []int64{n}}}}}
		checkIs(t, p, 0, api.OK, fmt.Sprint("label ", n, " of none yet"))
	}
}

// 9.3: as many labels as there may be, and one of them twice
func TestManyLabels(t *testing.T) {
	s := api.Stmt{Kind: api.SCase, X: []api.Part{variable("N")}}
	for i := range 32 {
		var a api.Arm
		for k := range 16 {
			a.Labels = append(a.Labels, int64(k*32-i))
		}
		s.Arms = append(s.Arms, a)
	}
	p := program("")
	p.Body = []api.Stmt{s}
	checkIs(t, p, 0, api.OK, "512 labels")
	for i := range 32 {
		for k := range 16 {
			was := s.Arms[i].Labels[k]
			s.Arms[i].Labels[k] = s.Arms[31-i].Labels[15-k]
			checkIs(t, p, 0, api.ErrKind, fmt.Sprint("a label twice at ", i, " ", k))
			s.Arms[i].Labels[k] = was
		}
	}
}

// 9.3: names of variables
func TestNamesTwice(t *testing.T) {
	exit := []api.Stmt{{Kind: api.SExit}}
	for i := range 64 {
		p := api.Program{Name: "P", Vars: many(64), Body: exit}
		checkIs(t, p, 0, api.ErrKind, "64 names")
		p.Name = p.Vars[i].Name
		checkIs(t, p, 0, api.ErrName, fmt.Sprint("the program's at ", i))
		p.Name = "P"
		p.Vars[i].Name = "P"
		checkIs(t, p, 0, api.ErrName, fmt.Sprint("the program's name at ", i))
		for k := range i {
			p.Vars[i].Name = p.Vars[k].Name
			checkIs(t, p, 0, api.ErrName, fmt.Sprint("the same at ", i, " and ", k))
		}
	}
	for _, l := range [][]api.Var{
		{{Name: "A", Type: api.TInt}, {Name: "A", Type: api.TInt}},
		{{Name: "A", Type: api.TInt}, {Name: "A", Type: api.TBool, Dir: api.DInput}},
		{{Name: "A", Type: api.TInt, Len: 5}, {Name: "B", Type: api.TInt}, {Name: "A", Type: 101}},
	} {
		checkIs(t, api.Program{Name: "P", Vars: l}, 0, api.ErrName, fmt.Sprint(l))
	}
	// a name apart by its end alone is another one
	checkIs(t, api.Program{Name: "A", Vars: []api.Var{{Name: "A_", Type: 2}, {Name: "AA", Type: 2}, {Name: "A1", Type: 2}}}, 0, api.OK, "names alike")
}

// 9.3: programs that may not be, ahead of all else
func TestProgramsThatMayNotBe(t *testing.T) {
	right := program("while b do n := n + 1; end_while;")
	for i, p := range []api.Program{
		{}, {Name: "p"}, {Name: "IF"}, {Name: "P", Vars: many(65)}, {Name: "", Vars: right.Vars, Body: right.Body},
		{Name: "V0", Vars: many(65)},
		{Name: "P", Vars: slices.Repeat([]api.Var{{Name: "A", Type: 2}}, 65)},
		{Name: "P", Vars: append(wide(1025), api.Var{Name: "A"})},
		{Name: "P", Vars: []api.Var{{Name: "A", Type: 2}, {Name: "A", Type: 2}}, Body: []api.Stmt{{}}},
		{Name: "P", Vars: right.Vars, Body: []api.Stmt{{Kind: api.SExit}, {Kind: 10}}},
		{Name: "P", Vars: right.Vars, Body: []api.Stmt{{Kind: api.SExit}, {Kind: api.SSet, Name: "N"}}},
		{Name: "P", Vars: right.Vars, Body: []api.Stmt{{Kind: api.SSet, Name: "N", X: make([]api.Part, 501)}}},
		{Name: "P", Vars: right.Vars, Body: []api.Stmt{{Kind: api.SFor, Name: "N", X: parts("1"), Y: parts("2")}}},
		{Name: "P", Vars: right.Vars, Body: []api.Stmt{{Kind: api.SCase, X: parts("n"), Arms: []api.Arm{{}}}}},
		{Name: "P", Vars: right.Vars, Body: slices.Repeat([]api.Stmt{{Kind: api.SReturn}}, 401)},
	} {
		if at, e := typed.Check(p); at != 0 || e != api.ErrDecl {
			t.Errorf("%d: Check = %d, %d", i, at, e)
		}
	}
	deepest := []api.Stmt{{Kind: api.SExit}}
	for range 200000 {
		deepest = []api.Stmt{{Kind: api.SWhile, X: parts("b"), Body: deepest}}
	}
	if at, e := typed.Check(api.Program{Name: "P", Vars: right.Vars, Body: deepest}); at != 0 || e != api.ErrDecl {
		t.Error(at, e)
	}
	if at, e := typed.Check(api.Program{Name: "P", Vars: []api.Var{}, Body: []api.Stmt{}}); at != 0 || e != api.OK {
		t.Error("the least one", at, e)
	}
}

// maker makes random statements that mostly are right; wrong is in how many of a hundred places something else is taken.
type maker struct {
	*rand.Rand
	wrong int
}

func (m maker) pick(right string, others ...string) string {
	words := strings.Fields(right)
	if m.Intn(100) < m.wrong {
		words = append(words, others...)
	}
	return words[m.Intn(len(words))]
}

func (m maker) value(t int) string {
	switch t {
	case api.TBool:
		return m.pick("b i o t.q n<5 not~b xb[1] true b~and~not~i n=d0 1<2 e<=t.et", "n", "1", "nobody", "x", "t.cv", "b<b", "n<40000")
	case api.TInt:
		return m.pick("n on in1 x[0] x[n] x[d+1] c.cv 5 -32767 32767 n+1 (1+2)*n to_int(d) to_int(70000) q.last", "d", "40000", "n+40000", "nobody", "b", "x[b]", "t", "2147483648")
	case api.TDint:
		return m.pick("d id xd[0] q.cv 5 70000 -70000 d*70000 to_dint(n) to_dint(e) xd[x[n]]", "n", "2147483648", "nobody", "e", "q", "d+n")
	}
	return m.pick("e it xt[5] t.et t.pt t#5s e+t#5s to_time(n) -e", "5", "n", "nobody", "e*e", "xt", "e+1")
}

func (m maker) set() string {
	switch m.Intn(5) {
	case 0:
		return m.pick("b o xb[0] xb[n]", "i", "xb", "n", "nobody") + " := " + m.value(api.TBool)
	case 1:
		return m.pick("n on x[0] x[d]", "in1", "x", "x[b]", "n[0]", "t") + " := " + m.value(api.TInt)
	case 2:
		return m.pick("d xd[0] xd[5]", "id", "n", "xd[2147483648]") + " := " + m.value(api.TDint)
	case 3:
		return m.pick("e xt[n]", "it", "xt[e]", "nobody[0]") + " := " + m.value(api.TTime)
	}
	return m.call()
}

func (m maker) call() string {
	args := func(all ...string) string {
		m.Shuffle(len(all), func(i, k int) { all[i], all[k] = all[k], all[i] })
		all = all[:m.Intn(len(all)+1)]
		if m.Intn(100) < m.wrong && len(all) > 0 {
			all = append(all, m.pick("q~:=~b in~:=~b nobody~:=~b", all[0]))
		}
		return "(" + strings.Join(all, ", ") + ")"
	}
	b := func(name string) string { return name + " := " + m.value(api.TBool) }
	switch m.Intn(4) {
	case 0:
		return m.pick("t f g", "n", "nobody", "c") + args(b("in"), "pt := "+m.value(api.TTime))
	case 1:
		return m.pick("c", "k", "x") + args(b("cu"), b("r"), "pv := "+m.value(api.TInt))
	case 2:
		return m.pick("r w", "s", "b") + args(b("clk"))
	}
	return m.pick("q", "z") + args(b("a"), b("b"), b("r"))
}

func (m maker) list(depth int, inLoop bool) string {
	var l []string
	for range m.Intn(4) {
		l = append(l, m.statement(depth, inLoop))
	}
	return strings.Join(l, " ")
}

func (m maker) statement(depth int, inLoop bool) string {
	kind := m.Intn(10)
	if depth == 0 {
		kind = m.Intn(4)
	}
	switch kind {
	case 3:
		if inLoop || m.Intn(100) < m.wrong {
			return "exit;"
		}
		return "return;"
	case 4, 5:
		s := "if " + m.value(api.TBool) + " then " + m.list(depth-1, inLoop)
		for range m.Intn(3) {
			s += " elsif " + m.value(api.TBool) + " then " + m.list(depth-1, inLoop)
		}
		return s + " else " + m.list(depth-1, inLoop) + " end_if;"
	case 6:
		return "while " + m.value(api.TBool) + " do " + m.list(depth-1, true) + " end_while;"
	case 7:
		return "repeat " + m.list(depth-1, true) + " until " + m.value(api.TBool) + " end_repeat;"
	case 8:
		v, t := m.pick("n on", "b", "in1", "x", "e"), api.TInt
		if m.Intn(2) == 0 {
			v, t = m.pick("d", "n", "nobody"), api.TDint
		}
		return "for " + v + " := " + m.value(t) + " to " + m.value(t) + " by " + m.pick("1 -1 5 -32768", "32768", "-70000") + " do " + m.list(depth-1, true) + " end_for;"
	case 9:
		s := "case " + m.value(api.TInt) + " of "
		for i := range m.Intn(4) {
			s += fmt.Sprintf("%d, %s: %s ", i, m.pick(fmt.Sprint(-1-i, " ", 10+i, " ", 20+i), "0", "40000", "-1"), m.list(depth-1, inLoop))
		}
		return s + " else " + m.list(depth-1, inLoop) + " end_case;"
	}
	return m.set() + ";"
}

// 9.3: random programs
func TestRandomPrograms(t *testing.T) {
	r := rand.New(rand.NewSource(9))
	count := map[api.Errno]int{}
	for i := range 5000 {
		m := maker{r, i % 4 * i % 5}
		body := strings.NewReplacer("~", " ", "d0", "to_int(d)").Replace(m.list(3, false) + " " + m.list(2, false) + " " + m.list(1, false))
		p, f := decl.Parse(heads + body + " end_program")
		if f != (api.Fault{}) {
			if f.Code != api.ErrLong {
				t.Fatal(body, f)
			}
			continue
		}
		at, e := refCheck(p)
		checkIs(t, p, at, e, body)
		count[e]++
		if e == api.OK {
			allFit(t, p.Vars, p.Body)
		}
	}
	for _, e := range []api.Errno{api.OK, api.ErrName, api.ErrKind, api.ErrType, api.ErrRange} {
		if count[e] < 100 {
			t.Errorf("%d told %d times", e, count[e])
		}
	}
}

// allFit fails the test unless each expression of the statements has a type that fits, as the exported calls say: 9.4.
func allFit(t *testing.T, l []api.Var, list []api.Stmt) {
	t.Helper()
	whole := func(x []api.Part) {
		if k, e := typed.Type(l, x); e != api.OK || k != 0 && k != api.TInt && k != api.TDint {
			t.Errorf("Type of %s = %d, %d", shown(x), k, e)
		}
	}
	fit := func(x []api.Part, y int) {
		if e := typed.Fits(l, x, y); e != api.OK {
			t.Errorf("Fits of %s and %d = %d", shown(x), y, e)
		}
	}
	for _, s := range refRow(list, false) {
		_, v, e := typed.Place(l, s.Name)
		if s.Name != "" && e != api.OK {
			t.Errorf("Place(%s) = %d", s.Name, e)
		}
		switch s.Kind {
		case api.SSet:
			if len(s.Index) > 0 {
				whole(s.Index)
			}
			fit(s.X, v.Type)
		case api.SIf, api.SWhile, api.SRepeat:
			fit(s.X, api.TBool)
		case api.SFor:
			fit(s.X, v.Type)
			fit(s.Y, v.Type)
		case api.SCase:
			whole(s.X)
		case api.SCall:
			fields, _ := typed.Fields(v.Type - api.Block)
			for _, a := range s.Args {
				i := slices.IndexFunc(fields, func(f typed.Field) bool { return f.Name == a.Name })
				fit(a.X, fields[i].Type)
			}
		}
	}
}

// oddStmt answers a statement of anything.
func oddStmt(r *rand.Rand, depth int) api.Stmt {
	texts := []string{"", "N", "T", "X", "NOBODY", "n", "IF", "B"}
	odd := func() []api.Part {
		l := leaves()
		return slices.Repeat([]api.Part{l[r.Intn(len(l))]}, r.Intn(3))
	}
	s := api.Stmt{Kind: r.Intn(12) - 1, Name: texts[r.Intn(len(texts))], X: odd()}
	if r.Intn(3) == 0 {
		s.Index, s.Y, s.By = odd(), odd(), []int64{0, 1, -1, 40000, math.MaxInt64}[r.Intn(5)]
	}
	if r.Intn(3) == 0 {
		s.Args = []api.Arg{{Name: texts[r.Intn(len(texts))], X: odd()}, {Name: "IN", X: odd()}}
	}
	for range r.Intn(3) {
		if depth == 0 {
			break
		}
		s.Body = append(s.Body, oddStmt(r, depth-1))
		s.Arms = append(s.Arms, api.Arm{Labels: make([]int64, r.Intn(3)), Body: []api.Stmt{oddStmt(r, depth-1)}})
		s.Else = append(s.Else, oddStmt(r, depth-1))
	}
	return s
}

// P1, R5: programs of anything end, and those that may not be tell ErrDecl at 0
func TestAnyPrograms(t *testing.T) {
	r := rand.New(rand.NewSource(94))
	odd := oddVars()
	mayBe := 0
	for range 40000 {
		p := api.Program{Name: "P", Vars: vars}
		if r.Intn(10) == 0 {
			p.Name = []string{"", "n", "N", "IF"}[r.Intn(4)]
		}
		if r.Intn(10) == 0 {
			p.Vars = append(slices.Clone(vars), odd[r.Intn(len(odd))])
		}
		for range r.Intn(3) {
			p.Body = append(p.Body, oddStmt(r, 1))
		}
		at, e := typed.Check(p)
		if want := decl.Check(p); want != api.OK {
			if at != 0 || e != api.ErrDecl {
				t.Fatalf("Check of %+v = %d, %d", p, at, e)
			}
			continue
		}
		mayBe++
		if wantAt, want := refCheck(p); at != wantAt || e != want || at > stmt.Count(p.Body) {
			t.Fatalf("Check of %+v = %d, %d, want %d, %d", p, at, e, wantAt, want)
		}
		if againAt, again := typed.Check(p); againAt != at || again != e {
			t.Fatal("R7")
		}
	}
	if mayBe < 5000 {
		t.Error(mayBe)
	}
}

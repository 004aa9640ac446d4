package gen_test

import (
	"fmt"
	"runtime"
	"slices"
	"testing"

	"capstan/api"
	"capstan/code"
	"capstan/gen"
)

// long answers a statement that has so many instructions, an even number of them up to 500.
func long(many int) api.Stmt {
	return api.Stmt{Kind: api.SSet, Name: "N", X: balanced(many/2, api.NAdd, variable("N"))}
}

// padded answers the statements behind others, so that the code of all and the END behind them is so long.
func padded(t *testing.T, last []api.Stmt, whole int) api.Program {
	t.Helper()
	left := whole - len(refCode(api.Program{Name: "P", Vars: vars, Body: last}))
	var body []api.Stmt
	for left >= 500 {
		body = append(body, long(500))
		left -= 500
	}
	for range left {
		body = append(body, api.Stmt{Kind: api.SReturn})
	}
	body = append(body, last...)
	return api.Program{Name: "P", Vars: vars, Body: body}
}

// 14.1: code of MaxCode instructions, and of one more, with each kind of statement as the last one
func TestLongestCode(t *testing.T) {
	for what, body := range map[string]string{
		"nothing": "", "return": "return;", "set": "n := 1;", "set of an array": "x[n] := n;", "if": "if b then n := 1; end_if;", "empty if": "if b then end_if;", "else": "if b then n := 1; else n := 2; end_if;", "elsif": "if b then elsif i then end_if;",
		"while": "while b do exit; end_while;", "repeat": "repeat exit; until b end_repeat;", "for": "for n := 1 to 2 do end_for;", "case": "case n of 1: n := 1; end_case;", "case with else": "case d of 1, 2: 3: else n := 1; end_case;", "call": "q(a := b);", "call without args": "t();",
		"nest": "while b do repeat if b then for n := 1 to 2 do case n of 1: return; end_case; end_for; end_if; until b end_repeat; end_while;",
	} {
		last := program(body).Body
		p := padded(t, last, api.MaxCode)
		if x := makes(t, p, refCode(p), what); len(x.Code) != 4096 {
			t.Errorf("%s: %d", what, len(x.Code))
		}
		for _, more := range []int{1, 2, 3, 100} {
			refuses(t, padded(t, last, api.MaxCode+more), 0, api.ErrLong, what)
		}
		p = padded(t, last, api.MaxCode-1)
		makes(t, p, refCode(p), what)
	}
}

// 14.1: the statements that are too many stand deep within others, and others behind them
func TestTooLongWithin(t *testing.T) {
	for n, wrap := range wraps() {
		for _, many := range []int{8, 9} {
			inner := slices.Repeat([]api.Stmt{long(500)}, many)
			s := api.Stmt{Kind: api.SWhile, X: parts("b"), Body: inner}
			for range 10 {
				s = wrap(s)
			}
			p := api.Program{Name: "P", Vars: vars, Body: []api.Stmt{s}}
			what := fmt.Sprint("wrap ", n, ", ", many)
			if want := refCode(p); len(want) <= api.MaxCode {
				makes(t, p, want, what)
			} else {
				refuses(t, p, 0, api.ErrLong, what)
			}
		}
	}
}

// 14.1: what Check refuses is told ahead of code that is too long, wherever it stands
func TestTooLongAndWrong(t *testing.T) {
	p := padded(t, nil, api.MaxCode+100)
	many := len(p.Body)
	p.Body = append(p.Body, api.Stmt{Kind: api.SExit})
	refuses(t, p, many, api.ErrKind, "too long, and an EXIT behind")
	p.Body[many] = api.Stmt{Kind: api.SSet, Name: "NOBODY", X: number5}
	refuses(t, p, many, api.ErrName, "too long, and a name behind")
	p.Vars = manyVars(65)
	refuses(t, p, 0, api.ErrDecl, "too long, and too many variables")
}

// 14.1: as many statements as there may be
func TestManyStatements(t *testing.T) {
	want := slices.Repeat([]string{"LOAD 7", "PUSH INT 1", "TWO + INT", "STORE 7"}, 400)
	p := program("n := n + 1;")
	p.Body = slices.Repeat(p.Body, 400)
	makes(t, p, append(want, "END"), "400 statements")
	p.Body = slices.Repeat(program("q(a := b, b := b, r := b);").Body, 400)
	makes(t, p, append(slices.Repeat([]string{"LOAD 6", "STORE 91", "LOAD 6", "STORE 92", "LOAD 6", "STORE 93", "CALL QUAD 91"}, 400), "END"), "400 calls")
	p.Body = slices.Repeat(program("for n := 1 to 2 do end_for;").Body, 372)
	if x := makes(t, p, refCode(p), "372 loops"); len(x.Code) != 4093 {
		t.Error(len(x.Code))
	}
	p.Body = append(p.Body, p.Body[0])
	refuses(t, p, 0, api.ErrLong, "373 loops")
}

// labelled answers a case with so many arms of so many labels.
func labelled(x []api.Part, arms, labels int) api.Stmt {
	s := api.Stmt{Kind: api.SCase, X: x}
	for a := range arms {
		var l []int64
		for n := range labels {
			l = append(l, int64(a*16+n))
		}
		s.Arms = append(s.Arms, api.Arm{Labels: l})
	}
	return s
}

// 14.1: cases of as many arms and labels as there may be
func TestManyLabels(t *testing.T) {
	for arms := 1; arms <= 32; arms++ {
		for _, labels := range []int{1, 2, 15, 16} {
			p := api.Program{Name: "P", Vars: vars, Body: []api.Stmt{labelled(parts("n"), arms, labels)}}
			x := makes(t, p, refCode(p), fmt.Sprint(arms, " arms, ", labels, " labels"))
			if want := arms*(5*labels+2) + 1; len(x.Code) != want {
				t.Errorf("%d arms of %d labels: %d, want %d", arms, labels, len(x.Code), want)
			}
		}
	}
}

// allocated answers how many bytes were asked for up to now.
func allocated() uint64 {
	var m runtime.MemStats
	runtime.ReadMemStats(&m)
	return m.TotalAlloc
}

// 14.1, P1: statements that ask for thousands of times as much code as there may be, of X that are as long as may be
func TestFarTooLong(t *testing.T) {
	x := append(balanced(250, api.NAdd, variable("N")), op(api.NNeg))
	huge := labelled(x, 32, 16)
	p := api.Program{Name: "P", Vars: vars, Body: []api.Stmt{huge}}
	refuses(t, p, 0, api.ErrLong, "a case")
	p.Body = slices.Repeat([]api.Stmt{huge}, 400)
	before := allocated()
	refuses(t, p, 0, api.ErrLong, "400 cases")
	if all := allocated() - before; all > 1<<28 {
		t.Errorf("%d bytes for code of which most is not kept", all)
	}
	s := huge
	for range 19 {
		outer := labelled(x, 32, 16)
		outer.Arms[31].Body = []api.Stmt{s}
		outer.Else = []api.Stmt{{Kind: api.SReturn}}
		s = outer
	}
	p.Body = []api.Stmt{s}
	refuses(t, p, 0, api.ErrLong, "cases within cases")
	p.Body = slices.Repeat([]api.Stmt{long(500)}, 400)
	refuses(t, p, 0, api.ErrLong, "400 long ones")
}

// P1: 400 statements of expressions that are long, but fold to one number
func TestMuchToFold(t *testing.T) {
	x := append(balanced(250, api.NAdd, number(1)), op(api.NNeg))
	p := api.Program{Name: "P", Vars: vars, Body: slices.Repeat([]api.Stmt{{Kind: api.SSet, Name: "N", X: x}}, 400)}
	y, at, e := gen.Gen(p)
	if at != 0 || e != api.OK || len(y.Code) != 801 || line(y.Code[798]) != "PUSH INT -250" {
		t.Error(len(y.Code), at, e)
	}
	if at, e := code.Check(y); at != 0 || e != api.OK {
		t.Error(at, e)
	}
}

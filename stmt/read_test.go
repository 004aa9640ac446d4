package stmt_test

import (
	"fmt"
	"math"
	"math/rand"
	"runtime/debug"
	"slices"
	"strings"
	"testing"
	"unsafe"

	"capstan/api"
	"capstan/expr"
	"capstan/stmt"
)

// readsOf fails the test unless the tokens l are read from at on as these statements, up to next.
func readsOf(t *testing.T, l []api.Token, at int, want []api.Stmt, next int) {
	t.Helper()
	if s, n, f := stmt.Parse(l, at); f != none || n != next || !same(s, want) {
		t.Errorf("Parse(%.300q, %d) = %.300s, %d, %v, want %.300s, %d", plain(l), at, fmt.Sprint(s), n, f, fmt.Sprint(want), next)
	}
}

// reads fails the test unless the text is read, as a whole, as these statements.
func reads(t *testing.T, text string, want ...api.Stmt) {
	t.Helper()
	l := tokens(text)
	readsOf(t, l, 0, want, len(l))
	checks(t, want, api.OK, text)
}

// refuses fails the test unless the tokens l are refused from at on with that fault, and nothing beside it.
func refuses(t *testing.T, l []api.Token, at, place int, code api.Errno) {
	t.Helper()
	if s, n, f := stmt.Parse(l, at); len(s) != 0 || n != 0 || f != (api.Fault{At: place, Code: code}) {
		t.Errorf("Parse(%.300q, %d) = %.300s, %d, %v, want {%d %d} alone", plain(l), at, fmt.Sprint(s), n, f, place, code)
	}
}

// agrees fails the test unless the tokens are read as the reference reads them.
func agrees(t *testing.T, l []api.Token, at int) api.Fault {
	t.Helper()
	s, n, f := stmt.Parse(l, at)
	want, next, fault := refParse(l, at)
	if !same(s, want) || n != next || f != fault {
		t.Fatalf("Parse(%.2000q, %d) = %.2000s, %d, %v, want %.2000s, %d, %v", plain(l), at, fmt.Sprint(s), n, f, fmt.Sprint(want), next, fault)
	}
	return f
}

// 7.1, the chapter's example
func TestParseOfTheExample(t *testing.T) {
	a, b := variable("A"), variable("B")
	reads(t, "IF a THEN x := 1 ; ELSIF b THEN EXIT ; END_IF ;", api.Stmt{Kind: api.SIf, X: a, Body: list(set("X", 1)), Else: list(api.Stmt{Kind: api.SIf, X: b, Body: list(exit)})})
}

// 7.1: each kind
func TestParse(t *testing.T) {
	a, b, one := variable("A"), variable("B"), num(1)
	sum := []api.Part{{Kind: api.PVar, S: "A"}, {Kind: api.PNum, N: 1}, {Kind: api.POp, N: api.NAdd}}
	back := api.Stmt{Kind: api.SReturn}
	reads(t, "")
	reads(t, "a := a + 1 ;", api.Stmt{Kind: api.SSet, Name: "A", X: sum})
	reads(t, "a [ a + 1 ] := b ;", api.Stmt{Kind: api.SSet, Name: "A", Index: sum, X: b})
	reads(t, "a := 1 ; b := 2 ; a := 1 ;", set("A", 1), set("B", 2), set("A", 1))
	reads(t, "exit ; return ; exit ;", exit, back, exit)
	reads(t, "if a then end_if ;", api.Stmt{Kind: api.SIf, X: a})
	reads(t, "if a then else end_if ;", api.Stmt{Kind: api.SIf, X: a})
	reads(t, "if a then exit ; return ; end_if ; exit ;", api.Stmt{Kind: api.SIf, X: a, Body: list(exit, back)}, exit)
	reads(t, "if a then exit ; else return ; exit ; end_if ;", api.Stmt{Kind: api.SIf, X: a, Body: list(exit), Else: list(back, exit)})
	reads(t, "if a then elsif b then elsif 1 then return ; else exit ; end_if ; exit ;", api.Stmt{Kind: api.SIf, X: a, Else: list(api.Stmt{Kind: api.SIf, X: b, Else: list(api.Stmt{Kind: api.SIf, X: one, Body: list(back), Else: list(exit)})})}, exit)
	reads(t, "if a then else if b then exit ; end_if ; end_if ;", api.Stmt{Kind: api.SIf, X: a, Else: list(api.Stmt{Kind: api.SIf, X: b, Body: list(exit)})})
	reads(t, "if a then else if b then exit ; end_if ; exit ; end_if ;", api.Stmt{Kind: api.SIf, X: a, Else: list(api.Stmt{Kind: api.SIf, X: b, Body: list(exit)}, exit)})
	reads(t, "if a then else exit ; if b then end_if ; end_if ;", api.Stmt{Kind: api.SIf, X: a, Else: list(exit, api.Stmt{Kind: api.SIf, X: b})})
	reads(t, "if a then if b then end_if ; elsif b then end_if ;", api.Stmt{Kind: api.SIf, X: a, Body: list(api.Stmt{Kind: api.SIf, X: b}), Else: list(api.Stmt{Kind: api.SIf, X: b})})
	reads(t, "if a then elsif b then else if 1 then end_if ; end_if ;", api.Stmt{Kind: api.SIf, X: a, Else: list(api.Stmt{Kind: api.SIf, X: b, Else: list(api.Stmt{Kind: api.SIf, X: one})})})
	reads(t, "while a + 1 do end_while ;", api.Stmt{Kind: api.SWhile, X: sum})
	reads(t, "while a do exit ; while b do return ; end_while ; end_while ;", api.Stmt{Kind: api.SWhile, X: a, Body: list(exit, api.Stmt{Kind: api.SWhile, X: b, Body: list(back)})})
	reads(t, "repeat until a end_repeat ;", api.Stmt{Kind: api.SRepeat, X: a})
	reads(t, "repeat exit ; repeat until b end_repeat ; until a + 1 end_repeat ;", api.Stmt{Kind: api.SRepeat, X: sum, Body: list(exit, api.Stmt{Kind: api.SRepeat, X: b})})
	reads(t, "for i := a to b do end_for ;", api.Stmt{Kind: api.SFor, Name: "I", X: a, Y: b, By: 1})
	reads(t, "for i := a + 1 to 1 by - 3 do exit ; end_for ;", api.Stmt{Kind: api.SFor, Name: "I", X: sum, Y: one, By: -3, Body: list(exit)})
	reads(t, "case a of end_case ;", api.Stmt{Kind: api.SCase, X: a})
	reads(t, "case a of else end_case ;", api.Stmt{Kind: api.SCase, X: a})
	reads(t, "case a of else exit ; end_case ;", api.Stmt{Kind: api.SCase, X: a, Else: list(exit)})
	reads(t, "case a of 1 : 2 , - 3 : exit ; return ; - 4 : exit ; end_case ;", api.Stmt{Kind: api.SCase, X: a, Arms: []api.Arm{{Labels: []int64{1}}, {Labels: []int64{2, -3}, Body: list(exit, back)}, {Labels: []int64{-4}, Body: list(exit)}}})
	reads(t, "case a of 1 , 1 : 1 : else if b then end_if ; end_case ;", api.Stmt{Kind: api.SCase, X: a, Arms: []api.Arm{{Labels: []int64{1, 1}}, {Labels: []int64{1}}}, Else: list(api.Stmt{Kind: api.SIf, X: b})})
	reads(t, "case a of 1 : case b of 2 : exit ; end_case ; 3 : end_case ;", api.Stmt{Kind: api.SCase, X: a, Arms: []api.Arm{{Labels: []int64{1}, Body: list(api.Stmt{Kind: api.SCase, X: b, Arms: []api.Arm{{Labels: []int64{2}, Body: list(exit)}}})}, {Labels: []int64{3}}}})
	reads(t, "t ( ) ;", api.Stmt{Kind: api.SCall, Name: "T"})
	reads(t, "t ( in := a , pt := 1 , in := b ) ;", api.Stmt{Kind: api.SCall, Name: "T", Args: []api.Arg{{Name: "IN", X: a}, {Name: "PT", X: one}, {Name: "IN", X: b}}})
}

// 7.1: where reading begins, and where places are counted from
func TestParseOfPlaces(t *testing.T) {
	l := tokens("a := 1 ; exit ; ) b")
	readsOf(t, l, 0, list(set("A", 1), exit), 6)
	readsOf(t, l, 4, list(exit), 6)
	for _, at := range []int{1, 2, 3, 5, 6, 8} {
		readsOf(t, l, at, nil, at)
	}
	refuses(t, l, 7, 8, api.ErrStmt)
	for _, at := range []int{-1, -2, 9, 10, math.MaxInt, math.MinInt, 1 << 40} {
		refuses(t, l, at, 0, api.ErrRange)
	}
	for _, empty := range [][]api.Token{nil, {}} {
		readsOf(t, empty, 0, nil, 0)
		refuses(t, empty, 1, 0, api.ErrRange)
		refuses(t, empty, -1, 0, api.ErrRange)
	}
	refuses(t, l[:3], 0, 3, api.ErrStmt) // what lies behind the length is not read
	readsOf(t, l[:4], 0, list(set("A", 1)), 4)
	refuses(t, tokens("exit ; a := := ;"), 2, 4, api.ErrExpr)
}

// strange are tokens that no text has, and some that no statement has.
var strange = []api.Token{{}, {Kind: api.KEnd}, {Kind: api.KEnd, S: ";"}, {Kind: 9, S: "A"}, {Kind: -1}, word(""), word("a"), word("if"), word("A B"), word("1"), word(";"), word(":="), word("-"), word(strings.Repeat("A", 25)), sign("IF"), sign("EXIT"), sign("A"), sign(""), sign("?"), sign("**"), sign(".."), {Kind: api.KNum, S: "EXIT"}}

// 7.1: what ends a list of statements, and what does not
func TestParseOfEnds(t *testing.T) {
	var ends []api.Token
	for _, s := range refKeywords {
		if !slices.Contains(strings.Fields("IF WHILE REPEAT FOR CASE EXIT RETURN"), s) {
			ends = append(ends, word(s))
		}
	}
	for _, s := range strings.Fields("( ) [ ] , ; : := . + - * / = < > <> <= >= &") {
		ends = append(ends, sign(s))
	}
	ends = append(append(ends, strange...), number(0), number(5), number(-5), numberOf(api.TInt, 5), numberOf(9, 1<<60))
	for _, e := range ends {
		readsOf(t, []api.Token{e}, 0, nil, 0)
		readsOf(t, append(tokens("a := 1 ; exit ;"), e, sign(";")), 0, list(set("A", 1), exit), 6)
		for _, head := range []string{"if a then", "if a then exit ; else", "while a do exit ;", "repeat", "for i := 1 to 2 do", "case a of 1 : exit ;", "case a of 1 : else exit ;", "if a then elsif a then exit ;"} {
			l := append(tokens(head), e)
			if f := agrees(t, l, 0); f == none || f.Code != api.ErrStmt && f.Code != api.ErrExpr || f.At < len(l)-1 {
				t.Errorf("%s %v: %v", head, e, f)
			}
		}
	}
	for _, s := range []string{"END_", "END_IT", "ENDIF", "ELSE_", "ELSIF1", "UNTIL_", "IFF", "EXITS", "_"} { // names
		readsOf(t, tokens(s+" := 1 ; "+s+" ( ) ;"), 0, list(set(s, 1), api.Stmt{Kind: api.SCall, Name: s}), 8)
	}
}

// forms are statements of all kinds, and what is answered if one of the tokens is missing, or wrong: nothing, ErrStmt, ErrExpr.
var forms = [][2]string{
	{"a := 1 ;", ".SES"},
	{"a [ i ] := 1 ;", ".SESSES"},
	{"if a then exit ; end_if ;", ".ESSSSS"},
	{"if a then elsif b then else exit ; end_if ;", ".ESSESSSSSS"},
	{"if a then elsif b then exit ; elsif c then end_if ;", ".ESSESSSSESSS"},
	{"while a do exit ; end_while ;", ".ESSSSS"},
	{"repeat exit ; until a end_repeat ;", ".SSSESS"},
	{"for i := 1 to 2 do exit ; end_for ;", ".SSESESSSSS"},
	{"for i := 1 to 2 by - 3 do exit ; end_for ;", ".SSESESSSSSSSS"},
	{"case a of 1 , - 2 : exit ; 3 : else exit ; end_case ;", ".ESSSSSSSSSSSSSSS"},
	{"case a of - 1 : end_case ;", ".ESSSSSS"},
	{"t ( in := 1 , pt := 2 ) ;", ".SSSESSSESS"},
	{"t ( ) ;", ".SSS"},
	{"exit ;", ".S"},
	{"return ;", ".S"},
}

// 7.1: each kind, cut short at each of its tokens, and with one there that may never stand there
func TestParseOfForms(t *testing.T) {
	codes := map[byte]api.Errno{'S': api.ErrStmt, 'E': api.ErrExpr}
	for _, form := range forms {
		l := tokens(form[0])
		if len(l) != len(form[1]) {
			t.Fatalf("%v has %d tokens", form, len(l))
		}
		for i := range l {
			for _, ahead := range [][]api.Token{nil, tokens("exit ; a := 1 ;")} {
				n := len(ahead) + i
				cut := slices.Concat(ahead, l[:i])
				if i == 0 {
					if s, next, f := stmt.Parse(cut, 0); f != none || next != n || len(s) != min(2, len(ahead)) {
						t.Errorf("Parse(%q) = %v, %d, %v", plain(cut), s, next, f)
					}
					continue
				}
				refuses(t, cut, 0, n, codes[form[1][i]])
				refuses(t, cut, len(ahead), n, codes[form[1][i]])
				for _, wrong := range []api.Token{sign("**"), {Kind: api.KEnd}, {}} {
					refuses(t, append(slices.Clip(cut), wrong), 0, n, codes[form[1][i]])
					refuses(t, slices.Concat(cut, []api.Token{wrong}, l[i+1:]), 0, n, codes[form[1][i]])
				}
			}
		}
	}
}

// alphabet are the tokens of statements, and a few beside them.
var alphabet = append(tokens("if then elsif else end_if case of end_case while do end_while for to by end_for repeat until end_repeat exit return end_program a b1 true not ( ) [ ] := , ; : . + - 0 1 int#1 2147483648"), strange...)

// 7.1: each kind, with each token at each of its places: in the place of another, ahead of it; and with one left out
func TestParseOfChangedForms(t *testing.T) {
	for _, form := range forms {
		for _, ahead := range []string{"", "while a do", "case a of 1 :", "if a then else", "if a then exit ; elsif b then", "repeat"} {
			l := append(tokens(ahead), tokens(form[0])...)
			l = append(l, tokens("exit ; end_while ;")...)
			agrees(t, l, 0)
			for i := range l {
				agrees(t, slices.Delete(slices.Clone(l), i, i+1), 0)
				for _, k := range alphabet {
					changed := slices.Clone(l)
					changed[i] = k
					agrees(t, changed, 0)
					agrees(t, slices.Insert(slices.Clone(l), i, k), 0)
				}
			}
		}
	}
}

// 7.1: all lists of few tokens, behind different beginnings
func TestParseOfAllShortLists(t *testing.T) {
	heads := []string{"", "exit ;", "a", "a [ 1 ]", "a :=", "t ( in := 1", "t (", "if a", "if a then", "if a then exit ; else", "if a then elsif b then", "while a do", "repeat", "repeat until a", "for i", "for i := 1 to 2", "for i := 1 to 2 by", "case a of", "case a of 1", "case a of 1 :", "case a of 1 : else"}
	for _, head := range heads {
		front := tokens(head)
		for i, a := range alphabet {
			for j, b := range alphabet {
				agrees(t, append(slices.Clip(front), a, b), 0)
				if i >= 42 || j >= 42 || head != "" && a.Kind == api.KWord {
					continue
				}
				for _, c := range alphabet[:42] {
					agrees(t, append(slices.Clip(front), a, b, c), 0)
				}
			}
		}
	}
}

// 7.1: numbers of BY, and labels
func TestParseOfNumbers(t *testing.T) {
	loop := func(by ...api.Token) []api.Token {
		return slices.Concat(tokens("for i := 1 to 2 by"), by, tokens("do end_for ;"))
	}
	arm := func(label ...api.Token) []api.Token {
		return slices.Concat(tokens("case a of 7 ,"), label, tokens(": end_case ;"))
	}
	first := func(label ...api.Token) []api.Token {
		return slices.Concat(tokens("case a of"), label, tokens(", 7 : end_case ;"))
	}
	for _, n := range []int64{0, 1, 2, -1, -2, 1<<31 - 1, 1 << 31, 1<<31 + 1, -1<<31 + 1, -1 << 31, -1<<31 - 1, 1 << 32, 1<<32 + 1, -1 << 32, math.MaxInt64, math.MinInt64, math.MinInt64 + 1} {
		for _, minus := range []bool{false, true} {
			value, k := n, []api.Token{number(n)}
			good := n >= -1<<31 && n <= 1<<31-1
			if minus {
				value, k = -n, []api.Token{sign("-"), number(n)}
				good = n >= -1<<31+1 && n <= 1<<31
			}
			if good {
				l := arm(k...)
				readsOf(t, l, 0, list(api.Stmt{Kind: api.SCase, X: variable("A"), Arms: []api.Arm{{Labels: []int64{7, value}}}}), len(l))
				readsOf(t, first(k...), 0, list(api.Stmt{Kind: api.SCase, X: variable("A"), Arms: []api.Arm{{Labels: []int64{value, 7}}}}), len(l))
			} else {
				refuses(t, arm(k...), 0, 4+len(k), api.ErrStmt)
				refuses(t, first(k...), 0, 2+len(k), api.ErrStmt)
			}
			if good && n != 0 {
				l := loop(k...)
				readsOf(t, l, 0, list(api.Stmt{Kind: api.SFor, Name: "I", X: num(1), Y: num(2), By: value}), len(l))
			} else {
				refuses(t, loop(k...), 0, 6+len(k), api.ErrStmt)
			}
		}
	}
	for _, y := range []int{api.TBool, api.TInt, api.TDint, api.TTime, 5, -1, math.MaxInt} {
		refuses(t, loop(numberOf(y, 1)), 0, 7, api.ErrStmt)
		refuses(t, loop(sign("-"), numberOf(y, 1)), 0, 8, api.ErrStmt)
		refuses(t, arm(numberOf(y, 1)), 0, 5, api.ErrStmt)
		refuses(t, arm(sign("-"), numberOf(y, 1)), 0, 6, api.ErrStmt)
		refuses(t, first(numberOf(y, 1)), 0, 3, api.ErrStmt)
	}
	refuses(t, loop(sign("-"), sign("-"), number(1)), 0, 8, api.ErrStmt)
	refuses(t, loop(sign("+"), number(1)), 0, 7, api.ErrStmt)
	refuses(t, loop(word("TRUE")), 0, 7, api.ErrStmt)
	refuses(t, arm(sign("-"), sign("-"), number(1)), 0, 6, api.ErrStmt)
	refuses(t, first(word("A")), 0, 3, api.ErrStmt)
	refuses(t, tokens("for i := 1 to 2 by 16#0 do end_for ;"), 0, 7, api.ErrStmt)
	reads(t, "for i := 1 to 2 by 16#ffffffff do end_for ;", api.Stmt{Kind: api.SFor, Name: "I", X: num(1), Y: num(2), By: -1})
	reads(t, "for i := 1 to 2 by - 16#ffffffff do end_for ;", api.Stmt{Kind: api.SFor, Name: "I", X: num(1), Y: num(2), By: 1})
	reads(t, "for i := 1 to 2 by 1 do end_for ;", api.Stmt{Kind: api.SFor, Name: "I", X: num(1), Y: num(2), By: 1})
}

// 7.1, R2: names must be names; words of args are taken as they are handed in, and so are expressions
func TestParseOfWords(t *testing.T) {
	for _, s := range append(slices.Clone(refKeywords), "", "a", "1", "A B", "Ä", strings.Repeat("A", 25)) {
		l := slices.Concat(tokens("t ("), []api.Token{word(s)}, tokens(":= 1 , a := 2 ) ;"))
		readsOf(t, l, 0, list(api.Stmt{Kind: api.SCall, Name: "T", Args: []api.Arg{{Name: s, X: num(1)}, {Name: "A", X: num(2)}}}), len(l))
		l = slices.Concat(tokens("t ( a := 2 ,"), []api.Token{word(s)}, tokens(":= 1 ) ;"))
		readsOf(t, l, 0, list(api.Stmt{Kind: api.SCall, Name: "T", Args: []api.Arg{{Name: "A", X: num(2)}, {Name: s, X: num(1)}}}), len(l))
		refuses(t, slices.Concat(tokens("for"), []api.Token{word(s)}, tokens(":= 1 to 2 do end_for ;")), 0, 1, api.ErrStmt)
		if !slices.Contains(strings.Fields("IF WHILE REPEAT FOR CASE EXIT RETURN"), s) {
			readsOf(t, slices.Concat([]api.Token{word(s)}, tokens(":= 1 ;")), 0, nil, 0)
			readsOf(t, slices.Concat([]api.Token{word(s)}, tokens("( ) ;")), 0, nil, 0)
		}
	}
	for _, k := range []api.Token{sign("IN"), number(1), {Kind: api.KEnd, S: "IN"}, {S: "IN"}, sign(",")} {
		refuses(t, slices.Concat(tokens("t ("), []api.Token{k}, tokens(":= 1 ) ;")), 0, 2, api.ErrStmt)
		refuses(t, slices.Concat(tokens("t ( in := 1 ,"), []api.Token{k}, tokens(":= 1 ) ;")), 0, 6, api.ErrStmt)
		k.S = "I"
		refuses(t, slices.Concat(tokens("for"), []api.Token{k}, tokens(":= 1 to 2 do end_for ;")), 0, 1, api.ErrStmt)
	}
	odd := api.Part{Kind: api.PNum, N: 1 << 60, T: 9}
	l := slices.Concat(tokens("a ["), []api.Token{numberOf(9, 1<<60)}, tokens("] :="), []api.Token{numberOf(9, 1<<60)}, tokens(";"))
	readsOf(t, l, 0, list(api.Stmt{Kind: api.SSet, Name: "A", Index: []api.Part{odd}, X: []api.Part{odd}}), len(l))
	for i := range l { // what else a token has does not matter
		l[i].At = -5
		if l[i].Kind != api.KNum {
			l[i].N, l[i].Type = 9, 9
		} else {
			l[i].S = "IF"
		}
	}
	readsOf(t, l, 0, list(api.Stmt{Kind: api.SSet, Name: "A", Index: []api.Part{odd}, X: []api.Part{odd}}), len(l))
}

// 7.1: what chapter 6 refuses, at each place of an expression
func TestParseOfExpressionsThatAreRefused(t *testing.T) {
	long := tokens("1" + strings.Repeat(" + 1", 250))
	deep := tokens("1" + strings.Repeat(" + 1", 24))
	open := slices.Repeat([]api.Token{sign("(")}, 201)
	for _, form := range forms {
		l := tokens(form[0])
		for i := range l {
			if form[1][i] != 'E' {
				continue
			}
			for _, x := range [][]api.Token{long, deep, open, tokens("1 +"), tokens("not"), tokens("a [ 1 ;"), tokens("to_int 1"), tokens("t . 5"), tokens("( 1 ;"), tokens("then")} {
				with := slices.Concat(tokens("exit ;"), l[:i], x, l[i+1:])
				_, _, want := expr.Parse(with, i+2)
				if want == none {
					t.Fatal(plain(with))
				}
				refuses(t, with, 0, want.At, want.Code)
				refuses(t, with, 2, want.At, want.Code)
			}
		}
	}
	refuses(t, append(tokens("a :="), long...), 0, 2, api.ErrLong)
	refuses(t, append(tokens("a :="), open...), 0, 202, api.ErrLong)
}

// 7.1: how many args, labels, arms and statements there may be
func TestParseOfCounts(t *testing.T) {
	limit := func(text string, n, most int) {
		t.Helper()
		l := append(tokens("exit ; "+text), sign(";"))
		if n > most {
			refuses(t, l, 0, 0, api.ErrLong)
			refuses(t, l, 2, 2, api.ErrLong)
			return
		}
		if f := agrees(t, l, 2); f != none {
			t.Errorf("%.100s: %v", text, f)
		}
	}
	join := func(s, between string, n int) string {
		return strings.Join(slices.Repeat([]string{s}, n), between)
	}
	for _, n := range []int{1, 7, 8, 9, 10, 500} {
		limit("t ( "+join("in := 1", " , ", n)+" ) ;", n, 8)
		limit("while a do t ( "+join("in := 1", " , ", n)+" ) ; end_while ;", n, 8)
	}
	for _, n := range []int{1, 15, 16, 17, 500} {
		limit("case a of "+join("- 1", " , ", n)+" : end_case ;", n, 16)
		limit("case a of 5 : exit ; "+join("1", " , ", n)+" : 1 : else exit ; end_case ;", n, 16)
	}
	for _, n := range []int{1, 31, 32, 33, 500} {
		limit("case a of "+join("1 :", " ", n)+" end_case ;", n, 32)
		limit("case a of "+join("1 :", " ", n)+" else end_case ;", n, 32)
	}
	for _, n := range []int{398, 399, 400, 401, 402, 2000} {
		limit(join("exit ;", " ", n), n, 400)
		limit(join("if a then exit ; end_if ;", " ", n/2)+join(" a := 1 ;", " ", n%2), n, 400)
		limit("while a do "+join("exit ;", " ", n-1)+" end_while ;", n, 400)
		limit("if a then "+join("elsif b then", " ", n-1)+" end_if ;", n, 400)
		limit("if a then "+join("elsif b then", " ", n-2)+" else exit ; end_if ;", n, 400)
		limit("if a then else "+join("exit ;", " ", n-1)+" end_if ;", n, 400)
		limit("case a of "+join("1 : exit ; exit ;", " ", 30)+" else "+join("exit ;", " ", n-61)+" end_case ;", n, 400)
		limit("repeat "+join("for i := 1 to 2 do t ( ) ; end_for ;", " ", (n-1)/2)+join(" return ;", " ", (n-1)%2)+" until a end_repeat ;", n, 400)
	}
	refuses(t, tokens(join("exit ;", " ", 400)+" exit"), 0, 801, api.ErrStmt)
	refuses(t, tokens("t ( "+join("in := 1", " , ", 9)+" )"), 0, 38, api.ErrStmt)
	readsOf(t, tokens(join("exit ;", " ", 401)), 2, slices.Repeat(list(exit), 400), 802)
}

// around are the heads and tails of statements that hold others, so that they are one deeper.
var around = [][2]string{
	{"if a then", "end_if ;"}, {"if a then", "else exit ; end_if ;"}, {"if a then elsif b then", "end_if ;"}, {"if a then else exit ;", "end_if ;"}, {"if a then elsif b then else exit ;", "end_if ;"},
	{"while a do", "end_while ;"}, {"repeat", "until a end_repeat ;"}, {"for i := 1 to 2 do", "end_for ;"},
	{"case a of 1 :", "end_case ;"}, {"case a of 1 : 2 , 3 :", "4 : end_case ;"}, {"case a of else", "end_case ;"}, {"case a of 1 : else", "end_case ;"},
}

// 7.1: how deep statements may be, and the place of the first that is deeper
func TestParseOfDepth(t *testing.T) {
	deep := func(n int, head, inner, tail string) []api.Token {
		return tokens("exit ; " + strings.Repeat(head+" ", n) + inner + strings.Repeat(" "+tail, n) + " exit ;")
	}
	for _, a := range around {
		width := len(tokens(a[0]))
		for _, inner := range []string{"exit ;", "x := 1 ; exit ;", "t ( ) ; exit ;", "if b then elsif a then end_if ; exit ;", "while b do end_while ;", "repeat until a end_repeat ;", "for i := 1 to 2 do end_for ;", "case a of end_case ;"} {
			if f := agrees(t, deep(19, a[0], inner, a[1]), 0); f != none {
				t.Errorf("%v around %s, 20 deep: %v", a, inner, f)
			}
			for _, n := range []int{20, 21, 30, 100} {
				l := deep(n, a[0], inner, a[1])
				at := 2 + 20*width
				if strings.HasSuffix(a[0], "exit ;") {
					at -= 2 // the EXIT ahead of the 20th is as deep
				}
				refuses(t, l, 0, at, api.ErrLong)
				refuses(t, l, 2, at, api.ErrLong)
				for _, cut := range []int{at + 1, at + 2, at + 5, len(l) - 3} { // a fault behind it is not the first
					refuses(t, l[:cut], 0, at, api.ErrLong)
				}
				refuses(t, append(slices.Clip(l[:at+1]), sign("**")), 0, at, api.ErrLong)
			}
		}
		for n, f := range map[int]api.Fault{20: none, 21: {At: 2 + 20*width, Code: api.ErrLong}} {
			if strings.HasSuffix(a[0], "exit ;") {
				continue
			}
			l := deep(n, a[0], "", a[1])
			if strings.Contains(a[1], "exit ;") {
				l = deep(n, a[0], "", "end_if ;")
			}
			if got := agrees(t, l, 0); got != f {
				t.Errorf("%v, %d deep: %v, want %v", a, n, got, f)
			}
		}
	}
}

// 7.1: an ELSIF is as deep as its IF; an IF in an ELSE is an ELSIF if it is alone there
func TestParseOfDepthInElse(t *testing.T) {
	deep := func(n int, inner string) []api.Token {
		return tokens(strings.Repeat("while a do ", n) + inner + strings.Repeat(" end_while ;", n))
	}
	at := 3 * 19
	for _, c := range []struct {
		inner string
		ok    bool
		place int // from the statement that is 20 deep on
	}{
		{"if a then end_if ;", true, 0},
		{"if a then elsif b then end_if ;", true, 0},
		{"if a then" + strings.Repeat(" elsif b then", 300) + " end_if ;", true, 0},
		{"if a then elsif b then exit ; end_if ;", false, 6},
		{"if a then elsif b then else exit ; end_if ;", false, 7},
		{"if a then exit ; elsif b then end_if ;", false, 3},
		{"if a then else end_if ;", true, 0},
		{"if a then else exit ; end_if ;", false, 4},
		{"if a then else if b then end_if ; end_if ;", true, 0},
		{"if a then else if b then elsif b then end_if ; end_if ;", true, 0},
		{"if a then elsif b then else if b then end_if ; end_if ;", true, 0},
		{"if a then else if b then else if b then end_if ; end_if ; end_if ;", true, 0},
		{"if a then else if b then end_if ; exit ; end_if ;", false, 4},
		{"if a then else if b then elsif b then end_if ; exit ; end_if ;", false, 4},
		{"if a then elsif b then else if b then end_if ; exit ; end_if ;", false, 7},
		{"if a then else if b then end_if ; if b then end_if ; end_if ;", false, 4},
		{"if a then else exit ; if b then end_if ; end_if ;", false, 4},
		{"if a then else while b do end_while ; end_if ;", false, 4},
		{"if a then else if b then exit ; end_if ; end_if ;", false, 7},
		{"if a then else if b then else if b then end_if ; exit ; end_if ; end_if ;", false, 8},
		{"if a then else if b then else if b then end_if ; end_if ; exit ; end_if ;", false, 4},
		{"case a of else if b then end_if ; end_case ;", false, 4},
		{"repeat if b then end_if ; until a end_repeat ;", false, 1},
	} {
		if f := agrees(t, deep(18, c.inner), 0); f != none {
			t.Errorf("19 deep: %.100s: %v", c.inner, f)
		}
		l := deep(19, c.inner)
		f := agrees(t, l, 0)
		switch {
		case c.ok && f != none:
			t.Errorf("20 deep: %.100s: %v", c.inner, f)
		case !c.ok:
			refuses(t, l, 0, at+c.place, api.ErrLong)
		}
	}
	// An IF that is not alone makes what is within it deeper; the first that is too deep may stand ahead of one that is so anyhow.
	refuses(t, deep(18, "if a then else if b then exit ; end_if ; exit ; end_if ;"), 0, 3*18+7, api.ErrLong)
	refuses(t, deep(18, "if a then else if b then while a do exit ; end_while ; end_if ; exit ; end_if ;"), 0, 3*18+7, api.ErrLong)
	refuses(t, deep(18, "if a then else if b then while a do exit ; end_while ; end_if ; end_if ;"), 0, 3*18+10, api.ErrLong)
	readsAlone := deep(18, "if a then else if b then exit ; end_if ; end_if ;")
	if f := agrees(t, readsAlone, 0); f != none {
		t.Errorf("%s: %v", plain(readsAlone), f)
	}
}

// 7.1, R1: which of several faults is answered
func TestParseOfTheFirstFault(t *testing.T) {
	many := strings.Repeat("exit ; ", 401)
	nine := "t ( " + strings.Repeat("in := 1 , ", 8) + "in := 1 ) ; "
	deep := strings.Repeat("while a do ", 20) + "exit ; " + strings.Repeat("end_while ; ", 20)
	n := func(s string) int { return len(tokens(s)) }
	for _, c := range []struct {
		text string
		f    api.Fault
	}{
		{"a := ; b :", api.Fault{At: 2, Code: api.ErrExpr}}, {"b : a := ;", api.Fault{At: 1, Code: api.ErrStmt}},
		{many + "a := ;", api.Fault{At: n(many) + 2, Code: api.ErrExpr}}, {many + "a ;", api.Fault{At: n(many) + 1, Code: api.ErrStmt}},
		{nine + "a := ;", api.Fault{At: n(nine) + 2, Code: api.ErrExpr}}, {nine + "a ;", api.Fault{At: n(nine) + 1, Code: api.ErrStmt}},
		{many + deep, api.Fault{At: n(many) + 60, Code: api.ErrLong}}, {nine + deep, api.Fault{At: n(nine) + 60, Code: api.ErrLong}}, {deep + many, api.Fault{At: 60, Code: api.ErrLong}},
		{many + nine, api.Fault{At: 0, Code: api.ErrLong}},
		{deep + "a := ;", api.Fault{At: 60, Code: api.ErrLong}}, {deep + "a ;", api.Fault{At: 60, Code: api.ErrLong}},
		{"a := ; " + deep, api.Fault{At: 2, Code: api.ErrExpr}}, {"a ; " + deep, api.Fault{At: 1, Code: api.ErrStmt}},
		{deep + deep, api.Fault{At: 60, Code: api.ErrLong}},
		{strings.Repeat("while a do ", 20) + "x := ;", api.Fault{At: 60, Code: api.ErrLong}},
		{strings.Repeat("while a do ", 20) + ";", api.Fault{At: 60, Code: api.ErrStmt}},
		{"a := " + "1" + strings.Repeat(" + 1", 300) + " ; b ;", api.Fault{At: 2, Code: api.ErrLong}},
		{"b ; a := " + "1" + strings.Repeat(" + 1", 300) + " ;", api.Fault{At: 1, Code: api.ErrStmt}},
		{"t ( in := 1" + strings.Repeat(" + 1", 300) + " ; ", api.Fault{At: 4, Code: api.ErrLong}},
		{"case a of " + strings.Repeat("1 , ", 20) + "int#1 :", api.Fault{At: 43, Code: api.ErrStmt}},
	} {
		refuses(t, tokens(c.text), 0, c.f.At, c.f.Code)
	}
}

// P1: nests and chains of any length are read, in little room
func TestParseOfHugeNests(t *testing.T) {
	defer debug.SetMaxStack(debug.SetMaxStack(2 << 20))
	const n = 30000
	repeat := func(head, tail string) []api.Token {
		return slices.Concat(slices.Repeat(tokens(head), n), slices.Repeat(tokens(tail), n))
	}
	for _, a := range around {
		l := repeat(a[0], a[1])
		for _, l := range [][]api.Token{l, l[:len(l)/2]} {
			if _, _, f := stmt.Parse(l, 0); f.Code != api.ErrLong || f.At < 20 || f.At > 200 {
				t.Errorf("a nest of %v: %v", a, f)
			}
		}
	}
	for _, a := range [][2]string{{"if a then else", "end_if ;"}, {"exit ;", ""}, {"case a of 1 : end_case ;", ""}} {
		l := repeat(a[0], a[1])
		refuses(t, l, 0, 0, api.ErrLong)
		if a[0] != "exit ;" {
			refuses(t, l[:len(l)-1], 0, len(l)-1, api.ErrStmt)
		}
	}
	chain := slices.Concat(tokens("if a then"), repeat("elsif b then", ""))
	refuses(t, chain, 0, len(chain), api.ErrStmt)
	refuses(t, append(chain, tokens("else end_if ;")...), 0, 0, api.ErrLong)
	pairs := repeat("if a then else", "end_if ; exit ;") // each but the innermost is one deeper
	refuses(t, pairs, 0, 4*20, api.ErrLong)
	args := slices.Concat(tokens("t ( in := 1"), repeat(", in := 1", ""))
	refuses(t, append(args, tokens(") ;")...), 0, 0, api.ErrLong)
	labels := slices.Concat(tokens("case a of 1"), repeat(", - 1", ""), tokens(": end_case ;"))
	refuses(t, labels, 0, 0, api.ErrLong)
}

// 7.1: what is read of the tokens of statements, changed here and there, is what the reference reads
func TestParseOfRandomTokens(t *testing.T) {
	r := rand.New(rand.NewSource(71))
	counts := map[api.Errno]int{}
	for i := range 15000 {
		s := randomList(r, 3, 2)
		if i%5 == 0 {
			s = randomNest(r, 10+r.Intn(18))
		}
		l := tokens(refText(s))
		if i%2 == 0 { // an ELSIF as an IF in an ELSE
			for j := range l {
				if l[j].S == "ELSIF" && r.Intn(2) == 0 {
					l[j] = word("IF")
					l = slices.Insert(l, j, word("ELSE"))
					l = append(l, tokens("end_if ;")...)
					break
				}
			}
		}
		for range r.Intn(3) {
			if len(l) == 0 {
				break
			}
			switch j := r.Intn(len(l)); r.Intn(5) {
			case 0:
				l = slices.Delete(l, j, j+1)
			case 1:
				l = slices.Insert(l, j, alphabet[r.Intn(len(alphabet))])
			case 2:
				l[j] = alphabet[r.Intn(len(alphabet))]
			case 3:
				k := r.Intn(len(l))
				l[j], l[k] = l[k], l[j]
			case 4:
				l = l[:j]
			}
		}
		at := 0
		if r.Intn(10) == 0 {
			at = r.Intn(len(l)+3) - 1
		}
		counts[agrees(t, l, at).Code]++
	}
	for _, e := range []api.Errno{api.OK, api.ErrStmt, api.ErrExpr, api.ErrLong, api.ErrRange} {
		if counts[e] < 50 {
			t.Errorf("the error %d came %d times", e, counts[e])
		}
	}
}

// 7.1, 7.2, R4: nothing of what is handed in is changed, kept or shared, and no two lists of an answer share memory
func TestParseAndTokensShareNothing(t *testing.T) {
	text := "a [ i ] := b ; if a then x := 1 ; elsif b then exit ; else t ( in := a , pt := b ) ; end_if ; for i := 1 to 2 by - 3 do exit ; end_for ; case a of 1 , 2 : exit ; 3 : else exit ; end_case ; while a do exit ; end_while ; repeat exit ; until a end_repeat ;"
	l := tokens(text)
	for i := range l {
		l[i].S = strings.Clone(l[i].S)
	}
	room := append(slices.Clone(l), slices.Repeat([]api.Token{word("ROOM")}, 20)...)
	given := room[:len(l)]
	before := slices.Clone(room)
	s, next, f := stmt.Parse(given, 0)
	again, _, _ := stmt.Parse(given, 0)
	if f != none || next != len(l) || !same(s, again) || !slices.Equal(room, before) {
		t.Fatalf("Parse = %v, %d, %v, then %v", s, next, f, again)
	}
	seen := map[unsafe.Pointer]string{}
	for _, k := range given {
		if k.S != "" {
			seen[unsafe.Pointer(unsafe.StringData(k.S))] = "the tokens"
		}
	}
	walk(t, s, "the answer", seen)
	walk(t, again, "the other answer", seen)

	shown, _ := stmt.Tokens(s)
	more, _ := stmt.Tokens(s)
	if !same(s, again) || !slices.Equal(shown, more) || plain(shown) != plain(l) {
		t.Fatalf("Tokens = %s, then %s", plain(shown), plain(more))
	}
	for _, k := range slices.Concat(shown, more) {
		if where := seen[unsafe.Pointer(unsafe.StringData(k.S))]; k.S != "" && where != "" {
			t.Errorf("%q of what is shown is that of %s", k.S, where)
		}
	}
	kept := slices.Clone(more)
	for i := range shown[:cap(shown)] {
		shown[:cap(shown)][i] = api.Token{}
	}
	for i := range given {
		given[i] = api.Token{}
	}
	if !slices.Equal(more, kept) || !same(s, again) {
		t.Errorf("what was answered is another one")
	}
}

// walk looks at all memory of statements, spare room too: none of it is there already.
func walk(t *testing.T, list []api.Stmt, where string, seen map[unsafe.Pointer]string) {
	t.Helper()
	at := func(p unsafe.Pointer) {
		t.Helper()
		if old := seen[p]; old != "" {
			t.Errorf("memory of %s is that of %s", where, old)
		}
		seen[p] = where
	}
	text := func(s string) {
		if s != "" {
			at(unsafe.Pointer(unsafe.StringData(s)))
		}
	}
	parts := func(x []api.Part) {
		x = x[:cap(x)]
		for i := range x {
			at(unsafe.Pointer(&x[i]))
			text(x[i].S)
			text(x[i].F)
		}
	}
	list = list[:cap(list)]
	for i := range list {
		s := &list[i]
		at(unsafe.Pointer(s))
		text(s.Name)
		parts(s.Index)
		parts(s.X)
		parts(s.Y)
		walk(t, s.Body, where, seen)
		walk(t, s.Else, where, seen)
		for j := range s.Arms[:cap(s.Arms)] {
			a := &s.Arms[:cap(s.Arms)][j]
			at(unsafe.Pointer(a))
			for k := range a.Labels[:cap(a.Labels)] {
				at(unsafe.Pointer(&a.Labels[:cap(a.Labels)][k]))
			}
			walk(t, a.Body, where, seen)
		}
		for j := range s.Args[:cap(s.Args)] {
			a := &s.Args[:cap(s.Args)][j]
			at(unsafe.Pointer(a))
			text(a.Name)
			parts(a.X)
		}
	}
}

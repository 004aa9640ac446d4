package stmt_test

import (
	"fmt"
	"math"
	"math/rand"
	"reflect"
	"runtime/debug"
	"slices"
	"strconv"
	"strings"
	"testing"

	"capstan/api"
	"capstan/expr"
	"capstan/lex"
	"capstan/stmt"
)

var none = api.Fault{}

func word(s string) api.Token { return api.Token{Kind: api.KWord, S: s} }

func sign(s string) api.Token { return api.Token{Kind: api.KSign, S: s} }

func number(n int64) api.Token { return api.Token{Kind: api.KNum, N: n} }

func numberOf(t int, n int64) api.Token { return api.Token{Kind: api.KNum, N: n, Type: t} }

// tokens answers the tokens of a text that is right, without the end. A text may have more of them than lex takes at once.
func tokens(s string) []api.Token {
	var all []api.Token
	words := strings.Fields(s)
	for len(words) > 0 {
		n := min(len(words), 500)
		l, f := lex.Tokens(strings.Join(words[:n], " "))
		if f != none {
			panic(s)
		}
		all = append(all, l[:len(l)-1]...)
		words = words[n:]
	}
	for i := range all {
		all[i].At = i
	}
	return all
}

// plain shows tokens, those too that no text has.
func plain(l []api.Token) string {
	var out []string
	for _, t := range l {
		switch {
		case t.Kind == api.KNum && t.Type != 0:
			out = append(out, fmt.Sprintf("%d#%d", t.Type, t.N))
		case t.Kind == api.KNum:
			out = append(out, strconv.FormatInt(t.N, 10))
		case t.Kind == api.KWord || t.Kind == api.KSign:
			out = append(out, t.S)
		default:
			out = append(out, fmt.Sprintf("%+v", t))
		}
	}
	return strings.Join(out, " ")
}

func exprText(x []api.Part) string {
	l, e := expr.Tokens(x)
	if e != api.OK {
		return fmt.Sprint(x)
	}
	return plain(l)
}

func numberText(n int64) string {
	return strings.ReplaceAll(strconv.FormatInt(n, 10), "-", "- ")
}

func variable(s string) []api.Part { return []api.Part{{Kind: api.PVar, S: s}} }

func num(n int64) []api.Part { return []api.Part{{Kind: api.PNum, N: n}} }

func set(name string, n int64) api.Stmt { return api.Stmt{Kind: api.SSet, Name: name, X: num(n)} }

func list(s ...api.Stmt) []api.Stmt { return s }

var exit = api.Stmt{Kind: api.SExit}

// sameParts, same: whether these are the same, nil or empty.
func sameParts(a, b []api.Part) bool { return slices.Equal(a, b) }

func same(a, b []api.Stmt) bool {
	return slices.EqualFunc(a, b, func(a, b api.Stmt) bool {
		return a.Kind == b.Kind && a.Name == b.Name && a.By == b.By && sameParts(a.Index, b.Index) && sameParts(a.X, b.X) && sameParts(a.Y, b.Y) &&
			same(a.Body, b.Body) && same(a.Else, b.Else) &&
			slices.EqualFunc(a.Arms, b.Arms, func(a, b api.Arm) bool { return slices.Equal(a.Labels, b.Labels) && same(a.Body, b.Body) }) &&
			slices.EqualFunc(a.Args, b.Args, func(a, b api.Arg) bool { return a.Name == b.Name && sameParts(a.X, b.X) })
	})
}

// one answers a statement of each kind, at its kind, that may be.
func one() []api.Stmt {
	return []api.Stmt{
		api.SSet:    {Kind: api.SSet, Name: "A", X: num(1)},
		api.SIf:     {Kind: api.SIf, X: variable("A")},
		api.SWhile:  {Kind: api.SWhile, X: variable("A")},
		api.SRepeat: {Kind: api.SRepeat, X: variable("A")},
		api.SFor:    {Kind: api.SFor, Name: "I", X: num(1), Y: num(2), By: 1},
		api.SCase:   {Kind: api.SCase, X: variable("A")},
		api.SCall:   {Kind: api.SCall, Name: "T"},
		api.SExit:   {Kind: api.SExit},
		api.SReturn: {Kind: api.SReturn},
	}
}

// full answers, at its kind, a statement with all that the kind names.
func full() []api.Stmt {
	s := one()
	s[api.SSet].Index = variable("I")
	for _, k := range []int{api.SIf, api.SWhile, api.SRepeat, api.SFor} {
		s[k].Body = list(exit)
	}
	s[api.SIf].Else = list(exit, set("A", 1))
	s[api.SCase].Else = list(exit)
	s[api.SCase].Arms = []api.Arm{{Labels: []int64{1, -1}, Body: list(exit)}, {Labels: []int64{0}}}
	s[api.SCall].Args = []api.Arg{{Name: "IN", X: num(1)}}
	return s
}

// nest answers n statements, one within the other, each made of what is within it.
func nest(n int, around func(within []api.Stmt) api.Stmt) []api.Stmt {
	var s []api.Stmt
	for range n {
		s = list(around(s))
	}
	return s
}

// holders are the ways in which a statement may hold others, so that they are one deeper.
var holders = map[string]func(within []api.Stmt) api.Stmt{
	"IF":      func(s []api.Stmt) api.Stmt { return api.Stmt{Kind: api.SIf, X: variable("A"), Body: s} },
	"IF else": func(s []api.Stmt) api.Stmt { return api.Stmt{Kind: api.SIf, X: variable("A"), Else: append(s, exit)} },
	"WHILE":   func(s []api.Stmt) api.Stmt { return api.Stmt{Kind: api.SWhile, X: variable("A"), Body: s} },
	"REPEAT":  func(s []api.Stmt) api.Stmt { return api.Stmt{Kind: api.SRepeat, X: variable("A"), Body: s} },
	"FOR": func(s []api.Stmt) api.Stmt {
		return api.Stmt{Kind: api.SFor, Name: "I", X: num(1), Y: num(2), By: 1, Body: s}
	},
	"CASE": func(s []api.Stmt) api.Stmt {
		return api.Stmt{Kind: api.SCase, X: variable("A"), Arms: []api.Arm{{Labels: []int64{1}, Body: s}}}
	},
	"CASE else": func(s []api.Stmt) api.Stmt { return api.Stmt{Kind: api.SCase, X: variable("A"), Else: s} },
}

func elsif(s []api.Stmt) api.Stmt { return api.Stmt{Kind: api.SIf, X: variable("A"), Else: s} }

// checks fails the test unless Check and Tokens answer e of s.
func checks(t *testing.T, s []api.Stmt, e api.Errno, what string) {
	t.Helper()
	if got := stmt.Check(s); got != e {
		t.Errorf("Check of %s = %d, want %d", what, got, e)
	}
	l, got := stmt.Tokens(s)
	if got != e || e != api.OK && len(l) != 0 {
		t.Errorf("Tokens of %s = %.300s, %d, want %d", what, plain(l), got, e)
	}
	if e != api.OK {
		return
	}
	again, next, f := stmt.Parse(l, 0)
	if !same(again, s) || next != len(l) || f != none {
		t.Errorf("what is shown of %s is read as %.300s, %d, %v", what, fmt.Sprint(again), next, f)
	}
}

// 7.2, 7.3: each kind, with the least that it needs and with all that it names
func TestCheckOfEachKind(t *testing.T) {
	checks(t, nil, api.OK, "none")
	checks(t, list(), api.OK, "none")
	for k := api.SSet; k <= api.SReturn; k++ {
		checks(t, list(one()[k]), api.OK, fmt.Sprint("the least of ", k))
		checks(t, list(full()[k]), api.OK, fmt.Sprint("the most of ", k))
		checks(t, list(exit, full()[k], one()[k], exit), api.OK, fmt.Sprint("several with ", k))
	}
	for _, k := range []int{0, -1, 10, 100, math.MaxInt, math.MinInt} {
		checks(t, list(api.Stmt{Kind: k}), api.ErrStmt, fmt.Sprint("kind ", k))
		checks(t, list(api.Stmt{Kind: k, Name: "A", X: num(1)}), api.ErrStmt, fmt.Sprint("kind ", k))
		checks(t, list(exit, api.Stmt{Kind: k}), api.ErrStmt, fmt.Sprint("kind ", k))
	}
}

// 7.2: what a kind does not name is zero; lists that are empty are
func TestCheckOfWhatIsNotNamed(t *testing.T) {
	named := []string{api.SSet: "Name Index X", api.SIf: "X Body Else", api.SWhile: "X Body", api.SRepeat: "X Body", api.SFor: "Name X Y By Body", api.SCase: "X Arms Else", api.SCall: "Name Args", api.SExit: "", api.SReturn: ""}
	something := map[string]any{"Name": "B", "Index": num(3), "X": num(3), "Y": num(3), "By": int64(3), "Body": list(exit), "Else": list(exit), "Arms": []api.Arm{{Labels: []int64{1}}}, "Args": []api.Arg{{Name: "IN", X: num(1)}}}
	wrong := map[string]any{"Arms": []api.Arm{{}}, "Args": []api.Arg{{}}, "X": []api.Part{{}}, "Y": []api.Part{{}}, "Index": []api.Part{{}}, "Name": "1", "By": int64(math.MaxInt64), "Body": make([]api.Stmt, 1), "Else": make([]api.Stmt, 1)}
	for k := api.SSet; k <= api.SReturn; k++ {
		for field, v := range something {
			e := api.ErrStmt
			if slices.Contains(strings.Fields(named[k]), field) {
				e = api.OK
			}
			for _, s := range []api.Stmt{one()[k], full()[k]} {
				reflect.ValueOf(&s).Elem().FieldByName(field).Set(reflect.ValueOf(v))
				checks(t, list(s), e, fmt.Sprintf("%d with %s", k, field))
				reflect.ValueOf(&s).Elem().FieldByName(field).Set(reflect.ValueOf(wrong[field]))
				checks(t, list(s), api.ErrStmt, fmt.Sprintf("%d with a wrong %s", k, field))
			}
			if f := reflect.ValueOf(v); f.Kind() == reflect.Slice {
				s := one()[k]
				if at := reflect.ValueOf(&s).Elem().FieldByName(field); at.IsNil() {
					at.Set(reflect.MakeSlice(f.Type(), 0, 3))
					if got := stmt.Check(list(s)); got != api.OK {
						t.Errorf("Check of %d with an empty %s = %d", k, field, got)
					}
				}
			}
		}
	}
}

// 7.2: what a kind names must be there
func TestCheckOfWhatIsMissing(t *testing.T) {
	missing := []string{api.SSet: "Name X", api.SIf: "X", api.SWhile: "X", api.SRepeat: "X", api.SFor: "Name X Y By", api.SCase: "X", api.SCall: "Name"}
	for k, fields := range missing {
		for _, field := range strings.Fields(fields) {
			s := full()[k]
			at := reflect.ValueOf(&s).Elem().FieldByName(field)
			at.Set(reflect.Zero(at.Type()))
			checks(t, list(s), api.ErrStmt, fmt.Sprintf("%d without %s", k, field))
		}
	}
}

// 7.2: names, words, and expressions
func TestCheckOfNamesAndExpressions(t *testing.T) {
	for _, c := range []struct {
		s          string
		name, word bool
	}{
		{"A", true, true}, {"_", true, true}, {"Z_9", true, true}, {"END_", true, true}, {"IFF", true, true}, {strings.Repeat("A", 24), true, true}, {"ENDIF", true, true},
		{"IF", false, true}, {"END_IF", false, true}, {"TRUE", false, true}, {"TO_TIME", false, true}, {"TON", false, true}, {"EXIT", false, true},
		{"", false, false}, {"a", false, false}, {"Aa", false, false}, {"1", false, false}, {"1A", false, false}, {"A B", false, false}, {"A.B", false, false}, {strings.Repeat("A", 25), false, false}, {"Ä", false, false}, {"A\x00", false, false},
	} {
		is := map[bool]api.Errno{true: api.OK, false: api.ErrStmt}
		for _, k := range []int{api.SSet, api.SFor, api.SCall} {
			s := full()[k]
			s.Name = c.s
			checks(t, list(s), is[c.name], fmt.Sprintf("%d named %q", k, c.s))
		}
		s := full()[api.SCall]
		s.Args = []api.Arg{{Name: "IN", X: num(1)}, {Name: c.s, X: num(1)}}
		checks(t, list(s), is[c.word], fmt.Sprintf("an arg named %q", c.s))
	}
	sum := func(n int) []api.Part {
		x := num(1)
		for range n {
			x = append(x, api.Part{Kind: api.PNum, N: 1}, api.Part{Kind: api.POp, N: api.NAdd})
		}
		return x
	}
	for what, x := range map[string][]api.Part{"two": append(num(1), num(1)...), "deep": sum(24), "long": sum(250), "half": sum(1)[1:], "keyword": variable("IF"), "great": num(1<<31 + 1), "typed": {{Kind: api.PNum, N: 40000, T: api.TInt}}, "other": {{Kind: 9}}} {
		for _, c := range []struct{ k, field int }{{api.SSet, 0}, {api.SSet, 1}, {api.SIf, 1}, {api.SWhile, 1}, {api.SRepeat, 1}, {api.SFor, 1}, {api.SFor, 2}, {api.SCase, 1}, {api.SCall, 3}} {
			s := full()[c.k]
			to := []*[]api.Part{&s.Index, &s.X, &s.Y, nil}[c.field]
			if c.k == api.SCall {
				to = &s.Args[0].X
			}
			*to = sum(23)
			checks(t, list(s), api.OK, fmt.Sprint("an expression as deep as may be in ", c.k))
			*to = x
			checks(t, list(s), api.ErrStmt, fmt.Sprintf("expression %s in %d", what, c.k))
			*to = nil
			if c.field != 0 {
				checks(t, list(s), api.ErrStmt, fmt.Sprint("no expression in ", c.k))
			}
		}
	}
}

// 7.2: numbers
func TestCheckOfNumbers(t *testing.T) {
	for _, n := range []int64{math.MinInt64, -1 << 32, -1<<31 - 1, -1 << 31, -1<<31 + 1, -2, -1, 0, 1, 2, 1<<31 - 2, 1<<31 - 1, 1 << 31, 1<<32 + 1, math.MaxInt64} {
		e := api.OK
		if n < -2147483648 || n > 2147483647 {
			e = api.ErrStmt
		}
		s := full()[api.SCase]
		s.Arms[0].Labels = []int64{n}
		checks(t, list(s), e, fmt.Sprint("a label of ", n))
		s.Arms[0].Labels = []int64{1, 1, n, n}
		checks(t, list(s), e, fmt.Sprint("labels with ", n))
		s = full()[api.SFor]
		s.By = n
		if n == 0 {
			e = api.ErrStmt
		}
		checks(t, list(s), e, fmt.Sprint("by ", n))
	}
}

// 7.2: how many labels, arms, args and statements there may be
func TestCheckOfCounts(t *testing.T) {
	until := func(n, most int) api.Errno {
		if n > most {
			return api.ErrStmt
		}
		return api.OK
	}
	for _, n := range []int{1, 2, 15, 16, 17, 18, 1000} {
		s := one()[api.SCase]
		s.Arms = []api.Arm{{Labels: []int64{1}}, {Labels: make([]int64, n)}}
		checks(t, list(s), until(n, 16), fmt.Sprint(n, " labels"))
	}
	s := one()[api.SCase]
	s.Arms = []api.Arm{{Labels: []int64{1}}, {}}
	checks(t, list(s), api.ErrStmt, "no label")
	for _, n := range []int{0, 1, 31, 32, 33, 1000} {
		s.Arms = slices.Repeat([]api.Arm{{Labels: []int64{1}}}, n)
		checks(t, list(s), until(n, 32), fmt.Sprint(n, " arms"))
	}
	s = one()[api.SCall]
	for _, n := range []int{0, 1, 7, 8, 9, 1000} {
		s.Args = slices.Repeat([]api.Arg{{Name: "IN", X: num(1)}}, n)
		checks(t, list(s), until(n, 8), fmt.Sprint(n, " args"))
	}
	for _, n := range []int{399, 400, 401, 402, 5000} {
		checks(t, slices.Repeat(list(exit), n), until(n, 400), fmt.Sprint(n, " statements"))
		for name, around := range holders {
			inner := slices.Repeat(list(exit), n-3)
			if name == "IF else" {
				inner = inner[1:]
			}
			checks(t, list(exit, around(inner), exit), until(n, 400), fmt.Sprint(n, " statements in ", name))
		}
		checks(t, nest(n, elsif), until(n, 400), fmt.Sprint(n, " ELSIFs"))
		arms := api.Stmt{Kind: api.SCase, X: num(1), Else: list(exit)}
		for range 32 {
			arms.Arms = append(arms.Arms, api.Arm{Labels: []int64{1}, Body: list(exit, exit)})
		}
		checks(t, append(slices.Repeat(list(exit), n-66), arms), until(n, 400), fmt.Sprint(n, " statements, some in arms"))
	}
}

// 7.2: how deep statements may be
func TestCheckOfDepth(t *testing.T) {
	for name, around := range holders {
		for n, e := range map[int]api.Errno{18: api.OK, 19: api.OK, 20: api.OK, 21: api.ErrStmt, 22: api.ErrStmt, 100: api.ErrStmt} {
			s := nest(n-1, around)
			if name != "IF else" {
				s = nest(n, around)
			}
			checks(t, s, e, fmt.Sprint(name, " ", n, " deep"))
			checks(t, append(list(exit), s...), e, fmt.Sprint("EXIT, and ", name, " ", n, " deep"))
			if name != "IF else" {
				checks(t, list(around(nest(n-1, holders["REPEAT"]))), e, fmt.Sprint(name, " around REPEATs ", n, " deep"))
			}
			if name == "IF" {
				checks(t, list(elsif(list(elsif(s)))), e, fmt.Sprint("ELSIFs ", n, " deep"))
			}
		}
	}
	// An ELSIF is as deep as its IF, an IF with another statement beside it in the Else is one deeper.
	deep := func(n int, inner ...api.Stmt) []api.Stmt {
		s := inner
		for range n {
			s = list(holders["WHILE"](s))
		}
		return s
	}
	checks(t, deep(19, nest(300, elsif)...), api.OK, "300 ELSIFs, 20 deep")
	checks(t, deep(20, nest(300, elsif)...), api.ErrStmt, "300 ELSIFs, 21 deep")
	checks(t, deep(19, nest(1, elsif)...), api.OK, "an IF, 20 deep")
	checks(t, deep(18, elsif(list(holders["IF"](list(exit))))), api.OK, "EXIT in an ELSIF, 20 deep")
	checks(t, deep(19, elsif(list(holders["IF"](list(exit))))), api.ErrStmt, "EXIT in an ELSIF, 21 deep")
	checks(t, deep(19, elsif(list(elsif(nil), exit))), api.ErrStmt, "an IF beside EXIT in an Else, 21 deep")
	checks(t, deep(18, elsif(list(elsif(nil), exit))), api.OK, "an IF beside EXIT in an Else, 20 deep")
	checks(t, deep(19, elsif(list(exit))), api.ErrStmt, "EXIT in an Else, 21 deep")
	checks(t, deep(18, elsif(list(elsif(list(exit))))), api.OK, "EXIT in the Else of an ELSIF, 20 deep")
	checks(t, deep(19, holders["CASE else"](nest(1, elsif))), api.ErrStmt, "an IF alone in the ELSE of a CASE, 21 deep")
	checks(t, deep(19, elsif(list(holders["WHILE"](nil)))), api.ErrStmt, "a WHILE alone in an Else, 21 deep")
}

// 7.2: what is wrong is found wherever it is
func TestCheckOfWhatIsWithin(t *testing.T) {
	for name, around := range holders {
		checks(t, list(around(list(exit, api.Stmt{Kind: api.SExit, By: 1}))), api.ErrStmt, "a wrong one in "+name)
		checks(t, list(around(list(holders["IF"](list(set("IF", 1)))))), api.ErrStmt, "a wrong one deeper in "+name)
	}
	checks(t, list(elsif(list(api.Stmt{Kind: api.SIf}))), api.ErrStmt, "a wrong ELSIF")
	s := full()[api.SCase]
	s.Arms[1].Body = list(exit, api.Stmt{})
	checks(t, list(s), api.ErrStmt, "a wrong one in the last arm")
}

// 7.2: Count, of statements that may be and of such that may not
func TestCount(t *testing.T) {
	for want, s := range map[int][]api.Stmt{
		0: nil, 1: list(exit), 2: {{}, {}}, 3: {full()[api.SCase]}, 4: {full()[api.SIf]},
		5: {{Kind: api.SExit, Body: list(exit), Else: list(exit), Arms: []api.Arm{{Body: list(exit, exit)}}}},
		7: {{Kind: 77, Body: make([]api.Stmt, 2), Else: nest(2, elsif), Arms: []api.Arm{{}, {Body: list(exit)}, {Body: list(exit)}}}},
	} {
		if n := stmt.Count(s); n != want {
			t.Errorf("Count(%v) = %d, want %d", s, n, want)
		}
	}
	if n := stmt.Count(list()); n != 0 {
		t.Errorf("Count of none = %d", n)
	}
	for _, n := range []int{400, 401, 100000} {
		if got := stmt.Count(make([]api.Stmt, n)); got != n {
			t.Errorf("Count of %d = %d", n, got)
		}
	}
	for _, around := range holders {
		s := nest(50, around)
		if n, want := stmt.Count(s), refCount(s); n != want {
			t.Errorf("Count = %d, want %d", n, want)
		}
	}
}

// P1: nests of any depth are counted, and refused, in little room
func TestDeepNestsEnd(t *testing.T) {
	defer debug.SetMaxStack(debug.SetMaxStack(4 << 20))
	const n = 100000
	for name, around := range map[string]func([]api.Stmt) api.Stmt{"IF": holders["IF"], "CASE": holders["CASE"], "ELSIF": elsif} {
		s := nest(n, around)
		if got := stmt.Count(s); got != n {
			t.Errorf("Count of %s, %d deep = %d", name, n, got)
		}
		checks(t, s, api.ErrStmt, name)
	}
	round := list(elsif(nil))
	round[0].Else = round
	checks(t, round, api.ErrStmt, "one within itself")
	round[0].Else, round[0].Body = nil, round
	checks(t, round, api.ErrStmt, "one within itself")
}

// randomExpr answers an expression, one that may be but for a few.
func randomExpr(r *rand.Rand) []api.Part {
	x := []api.Part{{Kind: api.PVar, S: "A"}}
	switch r.Intn(8) {
	case 0:
		x = num(int64(r.Intn(5)))
	case 1:
		x = []api.Part{{Kind: api.PField, S: "T", F: []string{"Q", "IF", "END_IF"}[r.Intn(3)]}}
	case 2:
		x = append(randomExpr(r), api.Part{Kind: api.PIndex, S: "B"})
	case 3:
		x = append(append(randomExpr(r), randomExpr(r)...), api.Part{Kind: api.POp, N: int64(1 + r.Intn(14))})
	case 4:
		x = append(randomExpr(r), api.Part{Kind: api.POp, N: api.NNeg})
	}
	return x
}

func randomNumber(r *rand.Rand) int64 {
	return []int64{1, 1, 1, 2, -1, -2, math.MinInt32, math.MaxInt32, int64(r.Uint32()>>1) + 1}[r.Intn(9)]
}

// randomList answers up to n statements, in nests that get less likely.
func randomList(r *rand.Rand, n, deep int) []api.Stmt {
	var s []api.Stmt
	for range r.Intn(n + 1) {
		s = append(s, randomStmt(r, deep))
	}
	return s
}

func randomStmt(r *rand.Rand, deep int) api.Stmt {
	k := 1 + r.Intn(9)
	if deep <= 0 && k >= api.SIf && k <= api.SCase {
		k = api.SSet
	}
	s := api.Stmt{Kind: k}
	within := func() []api.Stmt { return randomList(r, 3, deep-1) }
	if k <= api.SCase {
		s.X = randomExpr(r)
	}
	switch k {
	case api.SSet:
		s.Name = []string{"A", "END_A", "IFF"}[r.Intn(3)]
		if r.Intn(2) == 0 {
			s.Index = randomExpr(r)
		}
	case api.SIf:
		s.Body, s.Else = within(), within()
		if r.Intn(2) == 0 && deep > 0 {
			s.Else = list(api.Stmt{Kind: api.SIf, X: randomExpr(r), Body: within(), Else: within()})
		}
	case api.SWhile, api.SRepeat:
		s.Body = within()
	case api.SFor:
		s.Name, s.Y, s.By, s.Body = "I", randomExpr(r), randomNumber(r), within()
	case api.SCase:
		for range r.Intn(4) {
			a := api.Arm{Body: within()}
			for range 1 + r.Intn(3) {
				a.Labels = append(a.Labels, randomNumber(r)*int64(r.Intn(2)))
			}
			s.Arms = append(s.Arms, a)
		}
		s.Else = within()
	case api.SCall:
		s.Name = "T"
		for range r.Intn(4) {
			s.Args = append(s.Args, api.Arg{Name: []string{"IN", "PT", "IF", "END_CASE"}[r.Intn(4)], X: randomExpr(r)})
		}
	}
	return s
}

// randomNest answers a nest of n statements with a few beside them.
func randomNest(r *rand.Rand, n int) []api.Stmt {
	s := randomList(r, 1, 0)
	names := []string{"IF", "WHILE", "REPEAT", "FOR", "CASE", "CASE else"}
	for range n {
		beside := randomList(r, 1, r.Intn(2))
		switch r.Intn(4) {
		case 0:
			s = list(elsif(append(s, beside...)))
		case 1:
			s = append(beside, holders[names[r.Intn(6)]](s))
		default:
			s = append(list(holders[names[r.Intn(6)]](s)), beside...)
		}
	}
	return s
}

// 7.2, 7.3: what is shown, read again
func TestRandomStatements(t *testing.T) {
	r := rand.New(rand.NewSource(7))
	deep := 0
	for i := range 6000 {
		s := randomList(r, 4, 3)
		if i%4 == 0 {
			s = randomNest(r, 15+r.Intn(15))
		}
		before := fmt.Sprint(s)
		e := api.OK
		if refDeepStmts(s, 1) || refCount(s) > 400 {
			e = api.ErrStmt
			deep++
		}
		checks(t, s, e, fmt.Sprintf("%.300s", fmt.Sprint(s)))
		if l, _ := stmt.Tokens(s); e == api.OK && plain(l) != refText(s) {
			t.Fatalf("%v is shown as %s, want %s", s, plain(l), refText(s))
		}
		if n := stmt.Count(s); n != refCount(s) {
			t.Fatalf("Count(%v) = %d", s, n)
		}
		if fmt.Sprint(s) != before {
			t.Fatalf("%s was changed", before)
		}
		if t.Failed() {
			return
		}
	}
	if deep < 200 || deep > 1400 {
		t.Errorf("%d were too deep", deep)
	}
}

func refDeepStmts(s []api.Stmt, depth int) bool {
	for _, x := range s {
		last := depth + 1
		if x.Kind == api.SIf && len(x.Else) == 1 && x.Else[0].Kind == api.SIf {
			last = depth
		}
		if depth > 20 || refDeepStmts(x.Body, depth+1) || refDeepStmts(x.Else, last) {
			return true
		}
		for _, a := range x.Arms {
			if refDeepStmts(a.Body, depth+1) {
				return true
			}
		}
	}
	return false
}

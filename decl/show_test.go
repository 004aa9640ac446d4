package decl_test

import (
	"math"
	"reflect"
	"slices"
	"strings"
	"testing"
	"unsafe"

	"capstan/api"
	"capstan/decl"
)

// shows fails the test unless p is shown as just this text, which is read as p again.
func shows(t *testing.T, p api.Program, text string) {
	t.Helper()
	if s, e := decl.Show(p); s != text || e != api.OK {
		t.Errorf("Show(%+v) = %q, %d, want %q", p, s, e, text)
	}
	if again, f := decl.Parse(text); f != none || !same(again, p) {
		t.Errorf("Parse(%q) = %+v, %v, want %+v", text, again, f, p)
	}
}

// 8.2, 8.3: the chapter's example
func TestShowOfTheExample(t *testing.T) {
	p := api.Program{Name: "P", Vars: []api.Var{{Name: "A", Type: api.TBool, Dir: api.DInput}, {Name: "X", Type: api.TInt, Len: 4}, {Name: "T", Type: api.Block + api.BTon}, {Name: "N", Type: api.TInt, Init: -5}}, Body: body("n := n + 1;")}
	shows(t, p, "PROGRAM P VAR_INPUT A : BOOL ; END_VAR VAR X : ARRAY [ 0 .. 3 ] OF INT ; T : TON ; N : INT := - 5 ; END_VAR N := N + 1 ; END_PROGRAM")
}

// 8.2, 8.3: a section of each stretch of variables that are at one place
func TestShowOfSections(t *testing.T) {
	v := func(name string, dir int) api.Var { return api.Var{Name: name, Type: api.TInt, Dir: dir} }
	shows(t, program(), "PROGRAM P END_PROGRAM")
	shows(t, program(v("A", 0)), "PROGRAM P VAR A : INT ; END_VAR END_PROGRAM")
	shows(t, program(v("A", 1)), "PROGRAM P VAR_INPUT A : INT ; END_VAR END_PROGRAM")
	shows(t, program(v("A", 2)), "PROGRAM P VAR_OUTPUT A : INT ; END_VAR END_PROGRAM")
	shows(t, program(v("A", 0), v("B", 0)), "PROGRAM P VAR A : INT ; B : INT ; END_VAR END_PROGRAM")
	shows(t, program(v("A", 2), v("B", 1), v("C", 1), v("D", 0), v("E", 0), v("F", 0), v("G", 2)), "PROGRAM P VAR_OUTPUT A : INT ; END_VAR VAR_INPUT B : INT ; C : INT ; END_VAR VAR D : INT ; E : INT ; F : INT ; END_VAR VAR_OUTPUT G : INT ; END_VAR END_PROGRAM")
	shows(t, program(v("A", 0), v("B", 1), v("A", 0), v("B", 1)), "PROGRAM P VAR A : INT ; END_VAR VAR_INPUT B : INT ; END_VAR VAR A : INT ; END_VAR VAR_INPUT B : INT ; END_VAR END_PROGRAM")
	p, f := decl.Parse("program p var a : int; end_var var end_var var b : int; end_var var_input end_var var c : int; end_var end_program")
	if s, e := decl.Show(p); f != none || e != api.OK || s != "PROGRAM P VAR A : INT ; B : INT ; C : INT ; END_VAR END_PROGRAM" {
		t.Errorf("sections of one kind are shown as %q, %v, %d", s, f, e)
	}
}

// 8.2, 8.3: each type and each first
func TestShowOfVariables(t *testing.T) {
	for _, c := range []struct {
		v    api.Var
		text string
	}{
		{api.Var{Type: api.TBool}, "BOOL"},
		{api.Var{Type: api.TBool, Init: 1}, "BOOL := TRUE"},
		{api.Var{Type: api.TInt}, "INT"},
		{api.Var{Type: api.TInt, Init: 1}, "INT := 1"},
		{api.Var{Type: api.TInt, Init: -1}, "INT := - 1"},
		{api.Var{Type: api.TInt, Init: 32767}, "INT := 32767"},
		{api.Var{Type: api.TInt, Init: -32768}, "INT := - 32768"},
		{api.Var{Type: api.TDint}, "DINT"},
		{api.Var{Type: api.TDint, Init: 7}, "DINT := 7"},
		{api.Var{Type: api.TDint, Init: math.MaxInt32}, "DINT := 2147483647"},
		{api.Var{Type: api.TDint, Init: math.MinInt32}, "DINT := - 2147483648"},
		{api.Var{Type: api.TTime}, "TIME"},
		{api.Var{Type: api.TTime, Init: 1}, "TIME := T#1ms"},
		{api.Var{Type: api.TTime, Init: math.MaxInt32}, "TIME := T#2147483647ms"},
		{api.Var{Type: api.TBool, Len: 1}, "ARRAY [ 0 .. 0 ] OF BOOL"},
		{api.Var{Type: api.TInt, Len: 2}, "ARRAY [ 0 .. 1 ] OF INT"},
		{api.Var{Type: api.TDint, Len: 31}, "ARRAY [ 0 .. 30 ] OF DINT"},
		{api.Var{Type: api.TTime, Len: 32}, "ARRAY [ 0 .. 31 ] OF TIME"},
		{api.Var{Type: api.Block + api.BTon}, "TON"},
		{api.Var{Type: api.Block + api.BTof}, "TOF"},
		{api.Var{Type: api.Block + api.BTp}, "TP"},
		{api.Var{Type: api.Block + api.BCtu}, "CTU"},
		{api.Var{Type: api.Block + api.BCtd}, "CTD"},
		{api.Var{Type: api.Block + api.BRtrig}, "R_TRIG"},
		{api.Var{Type: api.Block + api.BFtrig}, "F_TRIG"},
		{api.Var{Type: api.Block + api.BSr}, "SR"},
		{api.Var{Type: api.Block + api.BRs}, "RS"},
		{api.Var{Type: api.Block + api.BQuad}, "QUAD"},
	} {
		c.v.Name = "A_1"
		shows(t, program(c.v), "PROGRAM P VAR A_1 : "+c.text+" ; END_VAR END_PROGRAM")
		if c.v.Len > 0 || c.v.Type > api.Block {
			continue
		}
		c.v.Dir = api.DInput
		shows(t, program(c.v), "PROGRAM P VAR_INPUT A_1 : "+c.text+" ; END_VAR END_PROGRAM")
		c.v.Dir = api.DOutput
		shows(t, program(c.v), "PROGRAM P VAR_OUTPUT A_1 : "+c.text+" ; END_VAR END_PROGRAM")
	}
}

// 8.2, 8.3: statements
func TestShowOfStatements(t *testing.T) {
	p := program(api.Var{Name: "A", Type: api.TInt})
	p.Body = body("if a then b := 1; elsif not a then exit; else if a then end_if; return; end_if; case a of 1, -2: else end_case; t(in := true, pt := t#1s); x[a + 1] := int#-5 * 16#ffffffff; for i := 1 to 2 by -1 do end_for;")
	shows(t, p, "PROGRAM P VAR A : INT ; END_VAR IF A THEN B := 1 ; ELSIF NOT A THEN EXIT ; ELSE IF A THEN END_IF ; RETURN ; END_IF ; CASE A OF 1 , - 2 : END_CASE ; T ( IN := TRUE , PT := T#1000ms ) ; X [ A + 1 ] := INT#-5 * 16#FFFFFFFF ; FOR I := 1 TO 2 BY - 1 DO END_FOR ; END_PROGRAM")
	shows(t, api.Program{Name: "P", Body: body("exit;")}, "PROGRAM P EXIT ; END_PROGRAM")
}

// 8.2: what chapter 5's Show refuses
func TestShowOfTokensThatNoTextHas(t *testing.T) {
	p := program(many(2)...)
	p.Body = []api.Stmt{{Kind: api.SSet, Name: "A", X: []api.Part{{Kind: api.PNum, N: -1, T: api.TTime}}}}
	if e := decl.Check(p); e != api.OK {
		t.Errorf("Check of a time below 0 in a statement = %d", e)
	}
	if s, e := decl.Show(p); s != "" || e != api.ErrToken {
		t.Errorf("Show of a time below 0 in a statement = %q, %d, want ErrToken", s, e)
	}
	p.Body = append(p.Body, api.Stmt{})
	if s, e := decl.Show(p); s != "" || e != api.ErrDecl {
		t.Errorf("what Check refuses comes first: %q, %d", s, e)
	}
}

// sum answers the sum of n variables, as flat as it can be.
func sum(n int) []api.Part {
	if n == 1 {
		return []api.Part{{Kind: api.PVar, S: "A"}}
	}
	return slices.Concat(sum(n/2), sum(n-n/2), []api.Part{{Kind: api.POp, N: api.NAdd}})
}

// 8.2, P1: as much as a program may have
func TestShowOfTheGreatest(t *testing.T) {
	call := api.Stmt{Kind: api.SCall, Name: "T", Args: slices.Repeat([]api.Arg{{Name: "IN", X: sum(250)}}, 8)}
	p := program(many(64)...)
	p.Body = slices.Repeat([]api.Stmt{call}, 400)
	if e := decl.Check(p); e != api.OK {
		t.Fatal(e)
	}
	if s, e := decl.Show(p); s != "" || e != api.ErrLong {
		t.Errorf("Show = %d bytes, %d, want ErrLong", len(s), e)
	}
}

// lengthy answers a program whose text has so many bytes: statements, and variables whose names make up for the rest.
func lengthy(bytes int) api.Program {
	set := api.Stmt{Kind: api.SSet, Name: "A", X: sum(30)}
	p := program(slices.Repeat([]api.Var{{Name: "A", Type: api.TInt}}, 64)...)
	each := len(refShow(api.Program{Name: "P", Body: []api.Stmt{set}})) - len(refShow(program()))
	p.Body = slices.Repeat([]api.Stmt{set}, (bytes-len(refShow(p)))/each)
	missing := bytes - len(refShow(p))
	for i := range p.Vars {
		n := min(missing, api.MaxName-1)
		p.Vars[i].Name = strings.Repeat("A", 1+n)
		missing -= n
	}
	return p
}

// 8.2: a text has at most MaxBytes bytes
func TestShowOfLongTexts(t *testing.T) {
	for bytes := api.MaxBytes - 2; bytes <= api.MaxBytes+2; bytes++ {
		p := lengthy(bytes)
		want, e := refShow(p), api.OK
		if len(want) != bytes || decl.Check(p) != api.OK {
			t.Fatalf("a program of %d bytes has %d", bytes, len(want))
		}
		if bytes > api.MaxBytes {
			want, e = "", api.ErrLong
		}
		if s, got := decl.Show(p); s != want || got != e {
			t.Errorf("%d bytes: %d bytes, %d, want %d", bytes, len(s), got, e)
		}
	}
}

// crammed answers a program of so many tokens, the end too.
func crammed(tokens int) api.Program {
	count := func(p api.Program) int { return len(strings.Fields(refShow(p))) + 1 }
	p := program(api.Var{Name: "A", Type: api.TInt, Init: 5})
	p.Body = slices.Repeat([]api.Stmt{{Kind: api.SSet, Name: "A", X: sum(5)}}, 215)
	for count(p) < tokens-1 {
		p.Body = append(p.Body, api.Stmt{Kind: api.SExit})
	}
	if count(p) < tokens {
		p.Vars[0].Init = -5
	}
	return p
}

// 8.2, 8.3: what is shown of as many tokens as a text may have is read again. Chapter 5's Show does not count them, its Tokens does: one more is shown, and refused.
func TestShowOfManyTokens(t *testing.T) {
	for _, tokens := range []int{api.MaxTokens - 1, api.MaxTokens, api.MaxTokens + 1, api.MaxTokens + 2} {
		p := crammed(tokens)
		s, e := decl.Show(p)
		if s != refShow(p) || e != api.OK {
			t.Fatalf("Show of %d tokens = %d bytes, %d", tokens, len(s), e)
		}
		again, f := decl.Parse(s)
		if tokens <= api.MaxTokens && (f != none || !same(again, p)) {
			t.Errorf("%d tokens are read again as another program, %v", tokens, f)
		}
		if tokens > api.MaxTokens && f.Code != api.ErrLong {
			t.Errorf("%d tokens are read again: %v", tokens, f)
		}
	}
}

// crowded answers a program all of whose lists have spare room with something in it, and those lists as they are, room and all.
func crowded() api.Program {
	p := api.Program{Name: "P", Vars: many(9)[:5], Body: body("a := b + 1; if a then exit; return; end_if; case a of 1, 2: exit; end_case; t(in := 1, pt := 2); return;")[:4]}
	p.Body[0].X = append(p.Body[0].X, api.Part{S: "room"})[:3]
	p.Body[1].Body = p.Body[1].Body[:1]
	p.Body[2].Arms[0].Labels = p.Body[2].Arms[0].Labels[:1]
	p.Body[3].Args = p.Body[3].Args[:1]
	return p
}

// whole answers a program with all its lists as long as they have room.
func whole(p api.Program) api.Program {
	p.Vars = p.Vars[:cap(p.Vars)]
	p.Body = slices.Clone(p.Body[:cap(p.Body)])
	for i := range p.Body {
		s := &p.Body[i]
		s.X, s.Body, s.Args, s.Arms = s.X[:cap(s.X)], s.Body[:cap(s.Body)], s.Args[:cap(s.Args)], slices.Clone(s.Arms[:cap(s.Arms)])
		for j := range s.Arms {
			s.Arms[j].Labels = s.Arms[j].Labels[:cap(s.Arms[j].Labels)]
		}
	}
	return p
}

// R4, R7: programs that are handed in stay as they are
func TestProgramsStayAsTheyAre(t *testing.T) {
	p := crowded()
	shown, _ := decl.Show(p)
	if want := "PROGRAM P VAR V0 : INT ; V1 : INT ; V2 : INT ; V3 : INT ; V4 : INT ; END_VAR A := B + 1 ; IF A THEN EXIT ; END_IF ; CASE A OF 1 : EXIT ; END_CASE ; T ( IN := 1 ) ; END_PROGRAM"; shown != want {
		t.Errorf("Show = %q, want %q", shown, want)
	}
	for range 3 {
		if s, e := decl.Show(p); s != shown || e != api.OK || decl.Check(p) != api.OK {
			t.Errorf("Show another time = %q, %d", s, e)
		}
	}
	if !reflect.DeepEqual(whole(p), whole(crowded())) {
		t.Error("the program that was handed in is another one")
	}
}

// R4: what is shown is new memory
func TestShownTextsAreNewMemory(t *testing.T) {
	p := api.Program{Name: strings.Repeat("A", 24), Vars: []api.Var{{Name: strings.Repeat("B", 24), Type: api.TInt}}}
	s, _ := decl.Show(p)
	from := uintptr(unsafe.Pointer(unsafe.StringData(s)))
	for _, piece := range []string{p.Name, p.Vars[0].Name} {
		if at := uintptr(unsafe.Pointer(unsafe.StringData(piece))); at >= from && at < from+uintptr(len(s)) {
			t.Errorf("%q is a piece of the answer", piece)
		}
	}
}

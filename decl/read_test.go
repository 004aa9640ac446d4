package decl_test

import (
	"fmt"
	"math/rand"
	"slices"
	"strings"
	"testing"
	"unsafe"

	"capstan/api"
	"capstan/decl"
	"capstan/lex"
)

// reads fails the test unless the text is read as just this program.
func reads(t *testing.T, text string, want api.Program) {
	t.Helper()
	if p, f := decl.Parse(text); f != none || !same(p, want) {
		t.Errorf("Parse(%.300q) = %+v, %v, want %+v", text, p, f, want)
	}
}

// refuses fails the test unless the text is refused at the place that a ^ marks in it, with nothing beside the fault; without a mark, at 0.
func refuses(t *testing.T, marked string, code api.Errno) {
	t.Helper()
	before, behind, _ := strings.Cut(marked, "^")
	at := len(before)
	if !strings.Contains(marked, "^") {
		at = 0
	}
	if p, f := decl.Parse(before + behind); p.Name != "" || p.Vars != nil || p.Body != nil || f != (api.Fault{At: at, Code: code}) {
		t.Errorf("Parse(%.300q) = %+v, %v, want {%d %d} alone", marked, p, f, at, code)
	}
}

// agrees fails the test unless the text is read as the reference reads it.
func agrees(t *testing.T, text string) api.Fault {
	t.Helper()
	p, f := decl.Parse(text)
	if want, fault := refParse(text); f != fault || !same(p, want) {
		t.Fatalf("Parse(%.2000q) = %+v, %v, want %+v, %v", text, p, f, want, fault)
	}
	return f
}

// in answers the text of a program with these variables in a section of that kind.
func in(section, variables string) string {
	return "program p " + section + " " + variables + " end_var end_program"
}

var sections = []string{api.DLocal: "var", api.DInput: "var_input", api.DOutput: "var_output"}

// 8.1, the chapter's example
func TestParseOfTheExample(t *testing.T) {
	reads(t, "PROGRAM p VAR_INPUT a : BOOL; END_VAR VAR x : ARRAY[0..3] OF INT; t : TON; n : INT := -5; END_VAR n := n + 1; END_PROGRAM",
		api.Program{Name: "P", Vars: []api.Var{{Name: "A", Type: api.TBool, Dir: api.DInput}, {Name: "X", Type: api.TInt, Len: 4}, {Name: "T", Type: api.Block + api.BTon}, {Name: "N", Type: api.TInt, Init: -5}}, Body: body("n := n + 1;")})
}

// 8.1: sections of each kind, none, several of one kind
func TestParseOfSections(t *testing.T) {
	v := func(name string, dir int) api.Var { return api.Var{Name: name, Type: api.TInt, Dir: dir} }
	reads(t, "program p end_program", program())
	reads(t, "Program\tp(* *)\r\nend_PROGRAM // behind\n{ }", program())
	reads(t, "program p var end_var end_program", program())
	reads(t, "program p var_output end_var var end_var var_input end_var var end_var end_program", program())
	reads(t, in("var", "a : int;"), program(v("A", 0)))
	reads(t, in("var_input", "a : int; b : int;"), program(v("A", 1), v("B", 1)))
	reads(t, in("var_output", "a:int;a:int;p:int;"), program(v("A", 2), v("A", 2), v("P", 2)))
	reads(t, "program p var a : int; end_var var b : int; c : int; end_var var end_var var d : int; end_var end_program", program(v("A", 0), v("B", 0), v("C", 0), v("D", 0)))
	reads(t, "program p var_output a : int; end_var var b : int; end_var var_input c : int; end_var var_output d : int; end_var var_input e : int; end_var end_program", program(v("A", 2), v("B", 0), v("C", 1), v("D", 2), v("E", 1)))
	with := program(v("A", 1))
	with.Body = body("a := 1; var_in_out := 2; if a then end_if;")
	reads(t, "program p var_input a : int; end_var a := 1; var_in_out := 2; if a then end_if; end_program", with)
	with.Vars = nil
	reads(t, "program p a := 1; var_in_out := 2; if a then end_if; end_program", with)
}

// 8.1: texts without a token
func TestParseOfNothing(t *testing.T) {
	for _, s := range []string{"", " ", "\n\t \r", "(* note *)", "// note", "{ pragma }", "(* program p end_program *) ", " {a} (* b *) // c"} {
		refuses(t, s+"^", api.ErrDecl)
	}
}

// cuts are programs, and what is answered if they end ahead of one of their tokens: ErrDecl, ErrStmt, ErrExpr.
var cuts = [][2]string{
	{"program p end_program", "DDD"},
	{"program p var end_var end_program", "DDDDD"},
	{"program p var_input a : bool ; b : dint := - 5 ; end_var end_program", "DDDDDDDDDDDDDDDD"},
	{"program p var_output a : time := t#5s ; end_var var end_var end_program", "DDDDDDDDDDDDD"},
	{"program p var x : array [ 0 .. 3 ] of int ; t : ton ; end_var end_program", "DDDDDDDDDDDDDDDDDDDD"},
	{"program p var a : int ; end_var a := 1 ; exit ; end_program", "DDDDDDDDDSESDSD"},
	{"program p if a then b [ 1 ] := 2 ; end_if ; t ( in := a ) ; end_program", "DDDESSSESSESSSDSSSESSD"},
}

// 8.1: programs that are cut short behind each of their tokens, or have a token there that may stand nowhere
func TestParseOfProgramsThatAreCut(t *testing.T) {
	codes := map[byte]api.Errno{'D': api.ErrDecl, 'S': api.ErrStmt, 'E': api.ErrExpr}
	for _, cut := range cuts {
		words := strings.Fields(cut[0])
		if len(words) != len(cut[1]) {
			t.Fatalf("%q has %d tokens", cut[0], len(words))
		}
		if f := agrees(t, cut[0]); f != none {
			t.Errorf("%q: %v", cut[0], f)
		}
		for i := range words {
			code := codes[cut[1][i]]
			front := strings.Join(words[:i], " ")
			refuses(t, front+"^", code)
			refuses(t, front+" (* *)\n^", code)
			refuses(t, front+" ^**", code)
			refuses(t, front+" (* *)\n^** "+strings.Join(words[i+1:], " "), code)
			refuses(t, front+" ^** "+strings.Join(words[i:], " "), code)
		}
	}
}

// 8.1: what must stand behind all
func TestParseOfWhatIsBehind(t *testing.T) {
	for _, s := range []string{"x", "5", ";", ".", "end_program", "program p end_program", "var end_var", "exit;", "x := ;", "a : int := 40000"} {
		refuses(t, "program p end_program ^"+s, api.ErrDecl)
		refuses(t, "program p exit; end_program(* *)^"+s, api.ErrDecl)
	}
	refuses(t, "program p end_program^;", api.ErrDecl)
	for _, s := range []string{" ", "\n", "(* x *)", "{x}", "// x", "// x\n"} {
		reads(t, "program p end_program"+s, program())
	}
}

// 8.1: each type and each block, in each section, alone and as an array
func TestParseOfTypes(t *testing.T) {
	for dir, section := range sections {
		for _, y := range values {
			reads(t, in(section, "a : "+typeWords[y]+";"), program(api.Var{Name: "A", Type: y, Dir: dir}))
			if dir == api.DLocal {
				reads(t, in(section, "a : array[0..6] of "+typeWords[y]+";"), program(api.Var{Name: "A", Type: y, Len: 7}))
			} else {
				refuses(t, in(section, "a : ^array[0..6] of "+typeWords[y]+";"), api.ErrDecl)
			}
		}
		for _, y := range blocks {
			if dir == api.DLocal {
				reads(t, in(section, "a : "+typeWords[y]+";"), program(api.Var{Name: "A", Type: y}))
				refuses(t, in(section, "a : array[0..6] of ^"+typeWords[y]+";"), api.ErrDecl)
			} else {
				refuses(t, in(section, "b : int; a : ^"+typeWords[y]+";"), api.ErrDecl)
				refuses(t, in(section, "a : ^array[0..6] of "+typeWords[y]+";"), api.ErrDecl)
			}
		}
		for _, word := range append(slices.Clone(refKeywords), "x", "real", "word", "t", "ctud") {
			if _, is := refTypes[word]; !is && word != "ARRAY" {
				refuses(t, in(section, "a : ^"+word+";"), api.ErrDecl)
			}
			if refTypes[word] == 0 {
				refuses(t, in("var", "a : array[0..6] of ^"+word+";"), api.ErrDecl)
			}
		}
	}
	refuses(t, in("var", "a : array[0..6] of ^array[0..6] of int;"), api.ErrDecl)
	refuses(t, in("var", "a : ^5;"), api.ErrDecl)
	refuses(t, in("var", "a : ^int#5;"), api.ErrDecl)
	refuses(t, in("var", "a : ^;"), api.ErrDecl)
}

// 8.1: the numbers of arrays
func TestParseOfArrays(t *testing.T) {
	for n := range 32 {
		reads(t, in("var", fmt.Sprintf("a : array[0..%d] of int;", n)), program(api.Var{Name: "A", Type: api.TInt, Len: n + 1}))
	}
	reads(t, in("var", "a : array[16#0..2#1_1] of int;"), program(api.Var{Name: "A", Type: api.TInt, Len: 4}))
	reads(t, in("var", "a : array[0_0..0031] of bool;"), program(api.Var{Name: "A", Type: api.TBool, Len: 32}))
	for _, n := range []string{"32", "33", "100", "65536", "2147483648", "16#ffffffff", "16#ffffffe0", "16#80000000", "-1", "-0", "int#3", "dint#3", "int#0", "bool#1", "t#3ms", "true", "n", "]", "(3)", ".."} {
		refuses(t, in("var", "a : array[0..^"+n+"] of int;"), api.ErrDecl)
	}
	for _, n := range []string{"1", "31", "16#ffffffff", "-1", "-0", "int#0", "dint#0", "bool#0", "t#0s", "false", "n", "..", "]"} {
		refuses(t, in("var", "a : array[^"+n+"..3] of int;"), api.ErrDecl)
		refuses(t, in("var", "a : array[^"+n+"..32] of ton;"), api.ErrDecl)
	}
	refuses(t, in("var", "a : array^(0..3) of int;"), api.ErrDecl)
	refuses(t, in("var", "a : array[0^,3] of int;"), api.ErrDecl)
	refuses(t, in("var", "a : array[0^.3] of int;"), api.ErrDecl)
	refuses(t, in("var", "a : array[0..^.3] of int;"), api.ErrDecl)
	refuses(t, in("var", "a : array[0..3^, 0..3] of int;"), api.ErrDecl)
	refuses(t, in("var", "a : array[0..3] ^int;"), api.ErrDecl)
	refuses(t, in("var", "a : array[0..3 ^+ 1] of int;"), api.ErrDecl)
}

// firsts are what a variable may be at first, by text: the first ones of each type that go with it.
var firsts = []struct {
	text string
	fits map[int]int64
}{
	{"TRUE", map[int]int64{api.TBool: 1}},
	{"false", map[int]int64{api.TBool: 0}},
	{"BOOL#1", map[int]int64{api.TBool: 1}},
	{"bool#0", map[int]int64{api.TBool: 0}},
	{"bool#-0", map[int]int64{api.TBool: 0}},
	{"0", map[int]int64{api.TInt: 0, api.TDint: 0}},
	{"- 0", map[int]int64{api.TInt: 0, api.TDint: 0}},
	{"1", map[int]int64{api.TInt: 1, api.TDint: 1}},
	{"-1", map[int]int64{api.TInt: -1, api.TDint: -1}},
	{"- 5", map[int]int64{api.TInt: -5, api.TDint: -5}},
	{"-(* *)5", map[int]int64{api.TInt: -5, api.TDint: -5}},
	{"1_000", map[int]int64{api.TInt: 1000, api.TDint: 1000}},
	{"16#7fff", map[int]int64{api.TInt: 32767, api.TDint: 32767}},
	{"-16#8000", map[int]int64{api.TInt: -32768, api.TDint: -32768}},
	{"16#8000", map[int]int64{api.TDint: 32768}},
	{"16#ffff", map[int]int64{api.TDint: 65535}},
	{"16#ffffffff", map[int]int64{api.TInt: -1, api.TDint: -1}},
	{"-16#ffffffff", map[int]int64{api.TInt: 1, api.TDint: 1}},
	{"16#80000000", map[int]int64{api.TDint: -2147483648}},
	{"-16#80000000", nil},
	{"32767", map[int]int64{api.TInt: 32767, api.TDint: 32767}},
	{"32768", map[int]int64{api.TDint: 32768}},
	{"-32768", map[int]int64{api.TInt: -32768, api.TDint: -32768}},
	{"-32769", map[int]int64{api.TDint: -32769}},
	{"2147483647", map[int]int64{api.TDint: 2147483647}},
	{"2147483648", nil},
	{"-2147483647", map[int]int64{api.TDint: -2147483647}},
	{"-2147483648", map[int]int64{api.TDint: -2147483648}},
	{"INT#0", map[int]int64{api.TInt: 0}},
	{"INT#5", map[int]int64{api.TInt: 5}},
	{"int#-5", map[int]int64{api.TInt: -5}},
	{"int#32767", map[int]int64{api.TInt: 32767}},
	{"int#-32768", map[int]int64{api.TInt: -32768}},
	{"dint#0", map[int]int64{api.TDint: 0}},
	{"dint#5", map[int]int64{api.TDint: 5}},
	{"DINT#2147483647", map[int]int64{api.TDint: 2147483647}},
	{"dint#-2147483648", map[int]int64{api.TDint: -2147483648}},
	{"T#0s", map[int]int64{api.TTime: 0}},
	{"t#5ms", map[int]int64{api.TTime: 5}},
	{"TIME#1m2s5ms", map[int]int64{api.TTime: 62005}},
	{"T#2147483647ms", map[int]int64{api.TTime: 2147483647}},
}

// 8.1: each first at each type, as input and output too
func TestParseOfFirsts(t *testing.T) {
	for dir, section := range sections {
		for _, y := range values {
			for _, first := range firsts {
				a := "a : " + typeWords[y] + " := "
				n, fits := first.fits[y]
				if fits {
					reads(t, in(section, a+first.text+";"), program(api.Var{Name: "A", Type: y, Init: n, Dir: dir}))
					reads(t, in(section, "b : bool;"+a+first.text+"; c : int;"), program(api.Var{Name: "B", Type: api.TBool, Dir: dir}, api.Var{Name: "A", Type: y, Init: n, Dir: dir}, api.Var{Name: "C", Type: api.TInt, Dir: dir}))
				} else {
					refuses(t, in(section, a+"^"+first.text+";"), api.ErrDecl)
					refuses(t, in(section, "b : bool;"+a+" (* *) ^"+first.text+" x : 5"), api.ErrDecl)
				}
			}
			for _, wrong := range []string{"x", "a", ";", "+ 5", "(5)", "not true", "if", "int", ":= 5", "[0]", ".5"} {
				refuses(t, in(section, "a : "+typeWords[y]+" := ^"+wrong+";"), api.ErrDecl)
			}
			for _, wrong := range []string{"int#5", "int#-5", "dint#5", "bool#1", "t#5s", "true", "false", "x", ";", "- 5", "+ 5", "(5)"} {
				refuses(t, in(section, "a : "+typeWords[y]+" := -^"+wrong+";"), api.ErrDecl)
			}
		}
	}
	refuses(t, in("var", "a : int := 5 ^+ 1;"), api.ErrDecl)
	refuses(t, in("var", "a : int := 5 ^:= 5;"), api.ErrDecl)
	refuses(t, in("var", "a : int ^= 5;"), api.ErrDecl)
	refuses(t, in("var", "a : bool := true ^false;"), api.ErrDecl)
	refuses(t, in("var", "a : int := ^int#40000;"), api.ErrToken)
}

// 8.1: arrays and blocks with a first, as inputs, as outputs, and all of that at once
func TestParseOfArraysAndBlocksWithFirsts(t *testing.T) {
	for dir, section := range sections {
		for _, y := range append(slices.Clone(values), blocks...) {
			kind := typeWords[y]
			if y < api.Block {
				kind = "array [ 0 .. 3 ] of " + kind
			}
			for _, first := range []string{"5", "0", "- 5", "true", "t#5s", "int#5", "x", ";", "", ":="} {
				if dir == api.DLocal {
					refuses(t, in(section, "b : int := 5; a : "+kind+" ^:= "+first+";"), api.ErrDecl)
				} else {
					refuses(t, in(section, "b : int := 5; a : ^"+kind+" := "+first+";"), api.ErrDecl)
				}
			}
		}
	}
	refuses(t, in("var_input", "a : ^array[1..3] of int;"), api.ErrDecl)
	refuses(t, in("var_output", "a : ^array;"), api.ErrDecl)
	refuses(t, "program p var_input a : ^ton", api.ErrDecl)
	refuses(t, "program p var a : ton ^:=", api.ErrDecl)
	refuses(t, "program p var a : array[0..3] of int ^:=", api.ErrDecl)
}

// declared answers the text of a program with so many variables, in sections of so many.
func declared(n, each int, behind string) string {
	var b strings.Builder
	b.WriteString("program p ")
	for i := range n {
		if i%each == 0 {
			b.WriteString(sections[i/each%3] + " ")
		}
		fmt.Fprintf(&b, "v%d : int; ", i)
		if i%each == each-1 || i == n-1 {
			b.WriteString("end_var ")
		}
	}
	return b.String() + behind
}

// 8.1: how many variables there may be, and what comes ahead of that
func TestParseOfManyVariables(t *testing.T) {
	for _, each := range []int{1, 2, 21, 32, 64, 65, 1000} {
		for _, n := range []int{1, 63, 64, 65, 66, 500} {
			text := declared(n, each, "a := 1; end_program")
			p, f := decl.Parse(text)
			if n > 64 {
				refuses(t, text, api.ErrLong)
			} else if f != none || len(p.Vars) != n || p.Vars[n-1].Name != fmt.Sprint("V", n-1) || p.Vars[n-1].Dir != (n-1)/each%3 {
				t.Errorf("%d variables: %+v, %v", n, p, f)
			}
		}
		refuses(t, declared(65, each, "x^"), api.ErrStmt)
		refuses(t, declared(65, each, "end_program ^x"), api.ErrDecl)
		refuses(t, declared(65, each, "a := ^; end_program"), api.ErrExpr)
		refuses(t, declared(65, each, "var x : int := ^40000; end_var end_program"), api.ErrDecl)
		refuses(t, declared(65, each, "end_program ^$"), api.ErrToken)
		refuses(t, declared(65, each, "^"+strings.Repeat("exit; ", 401)+"end_program"), api.ErrLong)
		refuses(t, declared(65, each, "exit^"), api.ErrStmt)
	}
}

// 8.1: names that are keywords
func TestParseOfKeywordsAsNames(t *testing.T) {
	for _, word := range refKeywords {
		refuses(t, "program ^"+word+" end_program", api.ErrDecl)
		for _, section := range sections {
			if word != "END_VAR" {
				refuses(t, in(section, "^"+word+" : int;"), api.ErrDecl)
				refuses(t, in(section, "a : int; ^"+word+" : int;"), api.ErrDecl)
			}
		}
	}
	for _, word := range []string{"programs", "vars", "var_", "in", "q", "t", "time_", "to_bool", "_if", "iff", "a23456789012345678901234"} {
		name := lex.Upper(word)
		reads(t, "program "+word+" var "+word+" : int; end_var end_program", api.Program{Name: name, Vars: []api.Var{{Name: name, Type: api.TInt}}})
	}
	for _, no := range []string{"5", "int#5", ";", ":", "t#5s", "-", "16#ff"} {
		refuses(t, "program ^"+no+" end_program", api.ErrDecl)
		refuses(t, in("var", "^"+no+" : int;"), api.ErrDecl)
	}
	refuses(t, in("var", "a ^, b : int;"), api.ErrDecl)
	refuses(t, in("var", "a ^b : int;"), api.ErrDecl)
	refuses(t, in("var", "a ^:= 5;"), api.ErrDecl)
	refuses(t, in("var", "a ^int;"), api.ErrDecl)
	refuses(t, in("var", "a : int^, b : int;"), api.ErrDecl)
	refuses(t, in("var", "a : int; ^; b : int;"), api.ErrDecl)
}

// 8.1: what chapter 5 refuses comes ahead of all else, wherever it stands
func TestParseOfWhatLexRefuses(t *testing.T) {
	refuses(t, strings.Repeat(" ", api.MaxBytes+1), api.ErrLong)
	refuses(t, "x "+strings.Repeat(" ", api.MaxBytes), api.ErrLong)
	least := "program p end_program"
	reads(t, least+strings.Repeat("\n", api.MaxBytes-len(least)), program())
	refuses(t, least+strings.Repeat("\n", api.MaxBytes-len(least)+1), api.ErrLong)
	for _, wrong := range []string{"#", "$", "(* ", "{", "5_", "x#5", "int#40000", "t#5", "2147483649", "abcdefghijklmnopqrstuvwxy", "\xff", "\x00"} {
		refuses(t, "^"+wrong, api.ErrToken)
		refuses(t, "program p ^"+wrong, api.ErrToken)
		refuses(t, "program p end_program ^"+wrong, api.ErrToken)
		refuses(t, "program ; x := ; end_program ^"+wrong, api.ErrToken)
		refuses(t, "program p var t : ton := 5; end_var ^"+wrong, api.ErrToken)
	}
	refuses(t, "program p ^;"+strings.Repeat(" ;", api.MaxTokens-4), api.ErrDecl) // with the end, just as many as may be
	refuses(t, "program p ;"+strings.Repeat(" ;", api.MaxTokens-3)+"^", api.ErrLong)
	refuses(t, "program p ;"+strings.Repeat(" ;", api.MaxTokens-3)+" ^end_program", api.ErrLong)
}

// 8.1: what chapter 7 refuses of the statements, and what it leaves
func TestParseOfWhatStmtRefuses(t *testing.T) {
	while := func(n int) string { return strings.Repeat("while a do ", n) }
	for _, head := range []string{"program p ", "program p(* note *)\n{ }var a : int; end_var ", "program p\tvar_input a : int; end_var // x\n var end_var"} {
		refuses(t, head+" a ^1; end_program", api.ErrStmt)
		refuses(t, head+" a := ^; end_program", api.ErrExpr)
		refuses(t, head+" a := 1 ^end_program", api.ErrStmt)
		refuses(t, head+" a^", api.ErrStmt)
		refuses(t, head+" a :=^", api.ErrExpr)
		refuses(t, head+" a := 1 (* *) ^", api.ErrStmt)
		refuses(t, head+" exit; if a then ^end_program", api.ErrStmt)
		refuses(t, head+" exit; while a do exit; ^", api.ErrStmt)
		refuses(t, head+" case a of ^int#5: end_case; end_program", api.ErrStmt)
		refuses(t, head+" for ^if := 1 to 2 do end_for; end_program", api.ErrStmt)
		refuses(t, head+" x^.y := 1; end_program", api.ErrStmt)
		refuses(t, head+" exit; a := ^1"+strings.Repeat(" + 1", 250)+"; end_program", api.ErrLong)
		refuses(t, head+" exit; a := "+strings.Repeat("(", 200)+"^(", api.ErrLong)
		refuses(t, head+" exit;"+while(20)+" ^"+while(2), api.ErrLong)
		refuses(t, head+" ^"+strings.Repeat("exit; ", 401)+"end_program", api.ErrLong)
		refuses(t, head+" ^exit; t(a := 1"+strings.Repeat(", a := 1", 8)+"); end_program", api.ErrLong)
		refuses(t, head+" exit; t(a := 1"+strings.Repeat(", a := 1", 8)+"); x^", api.ErrStmt)
		refuses(t, head+" ^"+strings.Repeat("exit; ", 401), api.ErrLong)
		for _, left := range []string{"end_if", "else", "until", "then", "5", "-", ";", "var", "var_input", "end_var", "program", "true", "int", "(", ":="} {
			refuses(t, head+" exit; ^"+left+" end_program", api.ErrDecl)
			refuses(t, head+" exit; ^"+left, api.ErrDecl)
			if !strings.HasPrefix(left, "var") {
				refuses(t, head+" ^"+left+" end_program", api.ErrDecl)
			}
		}
	}
}

// 8.1: of several faults the first from the left
func TestParseOfSeveralFaults(t *testing.T) {
	refuses(t, "^p program", api.ErrDecl)
	refuses(t, "program p var a : int := ^40000 b : ton := 5; end_var x := ; end_program x", api.ErrDecl)
	refuses(t, "program p var a : ton ^:= 40000; b : array[1..0] of int; end_var end_program", api.ErrDecl)
	refuses(t, "program p var_input a : ^array[1..0] of ton := 5; end_var end_program", api.ErrDecl)
	refuses(t, "program p var a : array[^1..40] of ton := 5; end_var end_program", api.ErrDecl)
	refuses(t, "program p var a : array[0..^40] of ton := 5; end_var end_program", api.ErrDecl)
	refuses(t, "program p var a : array[0..4] of ^ton := 5; end_var end_program", api.ErrDecl)
	refuses(t, "program p var a : bool := -^int#5; end_var x := ; end_program", api.ErrDecl)
	refuses(t, "program p var a : int; end_var x := ^; end_program x", api.ErrExpr)
	refuses(t, "program p x ^y; end_if end_program x", api.ErrStmt)
}

// alphabet are tokens, each of which is put at each place of programs.
var alphabet = strings.Fields("program end_program var var_input var_output end_var array of bool int dint time ton tof tp ctu ctd r_trig f_trig sr rs quad true false if then end_if exit a b1 [ ] .. : := ; , . - + ( ) = 0 1 31 32 40000 2147483648 16#ffffffff bool#1 int#5 int#-5 dint#5 t#5s $")

// 8.1: each token at each place of programs: in the place of another, ahead of it; and with one left out, or two turned about
func TestParseOfChangedPrograms(t *testing.T) {
	forms := []string{
		"program p var_output a : bool := true ; b : time := t#5s ; end_var var_output end_var end_program",
		"program p var_input a : int := - 5 ; c : dint := 7 ; end_var x ( in := 1 ) ; end_program",
		"program p var x : array [ 0 .. 3 ] of int ; t : ton ; n : int := 5 ; end_var if a then exit ; end_if ; end_program",
	}
	for _, cut := range cuts {
		forms = append(forms, cut[0])
	}
	for _, form := range forms {
		words := strings.Fields(form)
		if f := agrees(t, form); f != none {
			t.Fatalf("%q: %v", form, f)
		}
		for i := range words {
			agrees(t, strings.Join(slices.Delete(slices.Clone(words), i, i+1), " "))
			if i > 0 {
				turned := slices.Clone(words)
				turned[i-1], turned[i] = turned[i], turned[i-1]
				agrees(t, strings.Join(turned, " "))
			}
			for _, other := range alphabet {
				changed := slices.Clone(words)
				changed[i] = other
				agrees(t, strings.Join(changed, " "))
				agrees(t, strings.Join(slices.Insert(slices.Clone(words), i, other), " "))
			}
		}
	}
}

// 8.1: all short endings of different beginnings
func TestParseOfShortEndings(t *testing.T) {
	for _, head := range []string{"", "program", "program p", "program p var", "program p var_input", "program p var a", "program p var a :", "program p var_output a :", "program p var a : array", "program p var a : array [ 0", "program p var a : array [ 0 .. 3", "program p var a : array [ 0 .. 3 ] of", "program p var a : array [ 0 .. 3 ] of int", "program p var a : ton", "program p var a : bool", "program p var a : bool :=", "program p var a : int :=", "program p var_input a : dint := -", "program p var a : time :=", "program p var a : int ; end_var", "program p end_program"} {
		agrees(t, head)
		for _, a := range alphabet {
			for _, b := range alphabet {
				agrees(t, head+" "+a+" "+b)
			}
		}
	}
}

// pieces are what random texts are made of.
var pieces = append(slices.Clone(alphabet), "var a : int;", "end_var", "a : bool := true;", "b : array[0..5] of time;", "c : tp;", "n : int := -5;", "d : dint := dint#5;", "program p", "program p var", "end_var end_program", "x := 1;", "if a then exit; end_if;", "(* *)", "// x\n", "{}")

// 8.1, P1
func TestParseOfRandomTexts(t *testing.T) {
	r := rand.New(rand.NewSource(81))
	for i := range 60000 {
		var b strings.Builder
		if i%4 > 0 {
			b.WriteString("program p var ")
		}
		for range r.Intn(12) {
			b.WriteString(anyOf(r, pieces...) + anyOf(r, " ", " ", "\n", "(**)"))
		}
		if i%4 > 1 {
			b.WriteString(" end_var end_program")
		}
		agrees(t, b.String())
	}
	for range 20000 {
		s := []byte(declared(r.Intn(4), 1+r.Intn(3), anyOf(r, bodies...)+" end_program"))
		for range 1 + r.Intn(3) {
			at := r.Intn(max(1, len(s)-1))
			switch r.Intn(3) {
			case 0:
				s[at] = byte(r.Intn(256))
			case 1:
				s = slices.Delete(s, at, at+1)
			case 2:
				s = s[:at+2]
			}
		}
		agrees(t, string(s))
	}
}

// 8.1, 8.3: what is read may be, and is shown as what is read as just it
func TestParsedProgramsAreShown(t *testing.T) {
	r := rand.New(rand.NewSource(83))
	good := 0
	for range 20000 {
		text := "program p " + anyOf(r, sections...)
		for range r.Intn(5) {
			text += anyOf(r, " a", " b") + " : " + anyOf(r, "int", "bool", "dint", "time", "array[0..5] of int", "tp", "sr", "bool := bool#1", "int := 16#ffffffff", "dint := -5", "time := t#1h", "dint := dint#0") + "; " + anyOf(r, "", "", "end_var var ", "end_var var_input ", "end_var var_output ")
		}
		p, f := decl.Parse(text + " end_var " + anyOf(r, bodies...) + anyOf(r, bodies...) + " end_program")
		if f == none {
			good++
			checks(t, p, true, text)
		}
	}
	if good < 5000 {
		t.Errorf("%d of the texts are programs", good)
	}
}

// 5.3, 8.1: capitals, notes, pragmas and blanks change nothing but places
func TestParseOfGapsAndCapitals(t *testing.T) {
	text := "program p var_input a : bool ; end_var var x : array [ 0 .. 3 ] of int ; n : dint := - 5 ; e : time := T#5s ; end_var x [ n ] := to_int ( n ) ; end_program"
	want, f := decl.Parse(text)
	if f != none {
		t.Fatal(f)
	}
	reads(t, strings.ToUpper(text), want)
	for _, gap := range []string{"\n", "\t \r\n", "(* : *)", "{ ; }", " // end_var\n"} {
		reads(t, gap+strings.ReplaceAll(text, " ", gap)+gap, want)
	}
	reads(t, "program p var_input a:bool;end_var var x:array[0..3]of int;n:dint:=-5;e:time:=T#5s;end_var x[n]:=to_int(n);end_program", want)
}

// R4: no part of an answer is a piece of the text, and no two answers share memory
func TestParsedProgramsAreNewMemory(t *testing.T) {
	s := strings.Clone("PROGRAM PP VAR_INPUT AA : INT ; BB : INT ; END_VAR AA := BB + CC . DD ; TT ( IN := AA ) ; FOR II := 1 TO 2 DO EXIT ; END_FOR ; END_PROGRAM")
	from := uintptr(unsafe.Pointer(unsafe.StringData(s)))
	p, f := decl.Parse(s)
	if f != none {
		t.Fatal(f)
	}
	for _, n := range []string{p.Name, p.Vars[0].Name, p.Vars[1].Name, p.Body[0].Name, p.Body[0].X[0].S, p.Body[0].X[1].F, p.Body[1].Name, p.Body[1].Args[0].Name, p.Body[2].Name} {
		if at := uintptr(unsafe.Pointer(unsafe.StringData(n))); at >= from && at < from+uintptr(len(s)) {
			t.Errorf("%q is a piece of the text", n)
		}
	}
	again, _ := decl.Parse(s)
	for i := range again.Vars[:cap(again.Vars)] {
		again.Vars[:cap(again.Vars)][i] = api.Var{Name: "X"}
	}
	for i := range again.Body[:cap(again.Body)] {
		again.Body[:cap(again.Body)][i] = api.Stmt{Kind: 9}
	}
	reads(t, s, p)
}

package ilist_test

import (
	"slices"
	"strings"
	"testing"

	"capstan/api"
)

// made1 is lines and their code.
type made1 struct{ lines, code string }

func makesAll(t *testing.T, l []made1) {
	t.Helper()
	for _, c := range l {
		makes(t, c.lines, c.code)
	}
}

// 18.1: the chapter's example
func TestExample(t *testing.T) {
	x := made(t, "PROGRAM p VAR n : INT; END_VAR END_PROGRAM", "again: LD n ADD 1 ST n LD n LT 10 JMPC again")
	if got := text(x.Code); got != "LOAD 0; PUSH INT 1; TWO + INT; STORE 0; LOAD 0; PUSH INT 10; TWO < INT; ONE NOT BOOL; FALSE 0; END" {
		t.Error(got)
	}
	if x.Name != "P" || !slices.Equal(x.Types, []int{api.TInt}) || !slices.Equal(x.First, []int64{0}) || len(x.In)+len(x.Out) != 0 {
		t.Error(x)
	}
}

// 18.1: no lines at all
func TestNoLines(t *testing.T) {
	for _, lines := range []string{"", " ", "\t\r\n", "(* LD n *)", "// LD n", "{LD n}"} {
		makes(t, lines, "")
	}
	x := made(t, "program alone end_program", "")
	if x.Name != "ALONE" || len(x.Types)+len(x.First)+len(x.In)+len(x.Out) != 0 || text(x.Code) != "END" {
		t.Error(x)
	}
}

// cell is a variable or a field as an operand: its type, its cell, and whether it may be stored to.
type cell struct {
	name string
	typ  int
	cell string
	may  bool
}

var cells = []cell{
	{"i", api.TBool, "0", false}, {"in1", api.TInt, "1", false}, {"id", api.TDint, "2", false}, {"it", api.TTime, "3", false},
	{"o", api.TBool, "4", true}, {"on", api.TInt, "5", true}, {"od", api.TDint, "6", true}, {"ot", api.TTime, "7", true},
	{"b", api.TBool, "8", true}, {"n", api.TInt, "9", true}, {"d", api.TDint, "10", true}, {"e", api.TTime, "11", true},
	{"t.in", api.TBool, "51", true}, {"t.pt", api.TTime, "52", true}, {"t.q", api.TBool, "53", false}, {"t.et", api.TTime, "54", false}, {"t.start", api.TTime, "55", false}, {"t.run", api.TBool, "56", false},
	{"f.in", api.TBool, "57", true}, {"f.pt", api.TTime, "58", true}, {"f.q", api.TBool, "59", false}, {"f.et", api.TTime, "60", false}, {"f.start", api.TTime, "61", false}, {"f.run", api.TBool, "62", false},
	{"g.in", api.TBool, "63", true}, {"g.pt", api.TTime, "64", true}, {"g.q", api.TBool, "65", false}, {"g.et", api.TTime, "66", false}, {"g.start", api.TTime, "67", false}, {"g.run", api.TBool, "68", false},
	{"c.cu", api.TBool, "69", true}, {"c.r", api.TBool, "70", true}, {"c.pv", api.TInt, "71", true}, {"c.q", api.TBool, "72", false}, {"c.cv", api.TInt, "73", false}, {"c.m", api.TBool, "74", false},
	{"k.cd", api.TBool, "75", true}, {"k.ld", api.TBool, "76", true}, {"k.pv", api.TInt, "77", true}, {"k.q", api.TBool, "78", false}, {"k.cv", api.TInt, "79", false}, {"k.m", api.TBool, "80", false},
	{"r.clk", api.TBool, "81", true}, {"r.q", api.TBool, "82", false}, {"r.m", api.TBool, "83", false},
	{"w.clk", api.TBool, "84", true}, {"w.q", api.TBool, "85", false}, {"w.m", api.TBool, "86", false},
	{"s.s1", api.TBool, "87", true}, {"s.r", api.TBool, "88", true}, {"s.q1", api.TBool, "89", false},
	{"z.s", api.TBool, "90", true}, {"z.r1", api.TBool, "91", true}, {"z.q1", api.TBool, "92", false},
	{"q.a", api.TBool, "93", true}, {"q.b", api.TBool, "94", true}, {"q.r", api.TBool, "95", true}, {"q.cv", api.TDint, "96", false}, {"q.err", api.TBool, "97", false}, {"q.last", api.TInt, "98", false},
}

// of answers how a value of each type comes under way, and the code of that; and where one goes to, and the code of that.
func of(typ int) (from, load, to, store string) {
	switch typ {
	case api.TBool:
		return "LD b ", "LOAD 8; ", " ST b", "; STORE 8"
	case api.TInt:
		return "LD n ", "LOAD 9; ", " ST n", "; STORE 9"
	case api.TDint:
		return "LD d ", "LOAD 10; ", " ST d", "; STORE 10"
	}
	return "LD e ", "LOAD 11; ", " ST e", "; STORE 11"
}

// 18.1: each variable and each field is loaded, and stored to, where it may be
func TestCells(t *testing.T) {
	for _, c := range cells {
		_, _, to, store := of(c.typ)
		makes(t, "LD "+c.name+to, "LOAD "+c.cell+store)
		for typ := api.TBool; typ <= api.TTime; typ++ {
			from, load, to, _ := of(typ)
			want := api.OK
			if typ != c.typ {
				want = api.ErrType
				refuses(t, "LD "+c.name+to, len("LD "+c.name+" "), want)
			}
			switch {
			case !c.may:
				refuses(t, from+"ST "+c.name, len(from), api.ErrKind)
			case want == api.OK:
				makes(t, from+"ST "+c.name, load+"STORE "+c.cell)
			default:
				refuses(t, from+"ST "+c.name, len(from), want)
			}
		}
		refuses(t, "ST "+c.name, 0, api.ErrStmt)
	}
}

// 18.1: LDN, S, R of each variable and field, with a value of each type
func TestBools(t *testing.T) {
	for _, c := range cells {
		if c.typ == api.TBool {
			makes(t, "LDN "+c.name+" ST b", "LOAD "+c.cell+"; ONE NOT BOOL; STORE 8")
		} else {
			refuses(t, "LDN "+c.name+" ST b", 0, api.ErrType)
		}
		for typ := api.TBool; typ <= api.TTime; typ++ {
			from, load, _, _ := of(typ)
			for word, to := range map[string]string{"S ": "1", "R ": "0"} {
				switch {
				case !c.may:
					refuses(t, from+word+c.name, len(from), api.ErrKind)
				case c.typ != api.TBool || typ != api.TBool:
					refuses(t, from+word+c.name, len(from), api.ErrType)
				default:
					makes(t, from+word+c.name, load+"FALSE 4; PUSH BOOL "+to+"; STORE "+c.cell)
				}
			}
			refuses(t, from+"LDN "+c.name+" ST b", len(from), api.ErrStmt)
			refuses(t, from+"LD "+c.name+" ST b", len(from), api.ErrStmt)
		}
		refuses(t, "S "+c.name, 0, api.ErrStmt)
		refuses(t, "R "+c.name, 0, api.ErrStmt)
	}
}

// 18.1: numbers that are loaded
func TestNumbersLoaded(t *testing.T) {
	makesAll(t, []made1{
		{"LD 0 ST n", "PUSH INT 0; STORE 9"},
		{"LD 5 ST n", "PUSH INT 5; STORE 9"},
		{"LD 32767 ST n", "PUSH INT 32767; STORE 9"},
		{"LD 32768 ST d", "PUSH DINT 32768; STORE 10"},
		{"LD 40_000 ST d", "PUSH DINT 40000; STORE 10"},
		{"LD 2147483647 ST d", "PUSH DINT 2147483647; STORE 10"},
		{"LD 16#7FFF ST n", "PUSH INT 32767; STORE 9"},
		{"LD 16#8000 ST d", "PUSH DINT 32768; STORE 10"},
		{"LD 16#FFFF_FFFF ST n", "PUSH INT -1; STORE 9"},
		{"LD 16#FFFF8000 ST n", "PUSH INT -32768; STORE 9"},
		{"LD 16#FFFF7FFF ST d", "PUSH DINT -32769; STORE 10"},
		{"LD 16#80000000 ST d", "PUSH DINT -2147483648; STORE 10"},
		{"LD 2#101 ST n", "PUSH INT 5; STORE 9"},
		{"LD INT#5 ST n", "PUSH INT 5; STORE 9"},
		{"LD INT#-32768 ST n", "PUSH INT -32768; STORE 9"},
		{"LD DINT#5 ST d", "PUSH DINT 5; STORE 10"},
		{"LD DINT#-2147483648 ST d", "PUSH DINT -2147483648; STORE 10"},
		{"LD T#5ms ST e", "PUSH TIME 5; STORE 11"},
		{"LD TIME#1m5ms ST e", "PUSH TIME 60005; STORE 11"},
		{"LD BOOL#1 ST b", "PUSH BOOL 1; STORE 8"},
		{"LD BOOL#0 ST b", "PUSH BOOL 0; STORE 8"},
		{"LD TRUE ST b", "PUSH BOOL 1; STORE 8"},
		{"LD false ST b", "PUSH BOOL 0; STORE 8"},
		{"LDN TRUE ST b", "PUSH BOOL 1; ONE NOT BOOL; STORE 8"},
		{"LDN FALSE ST b", "PUSH BOOL 0; ONE NOT BOOL; STORE 8"},
		{"LDN BOOL#1 ST b", "PUSH BOOL 1; ONE NOT BOOL; STORE 8"},
	})
	refusesAll(t, []refusal{
		{"^LD 2147483648 ST d", api.ErrRange},
		{"LD n ST n ^LD 2147483648 ST d", api.ErrRange},
		{"LD 5 ^ST d", api.ErrType}, {"LD 32768 ^ST n", api.ErrType}, {"LD 16#FFFF_FFFF ^ST d", api.ErrType}, {"LD 0 ^ST b", api.ErrType}, {"LD 1 ^ST e", api.ErrType},
		{"LD INT#5 ^ST d", api.ErrType}, {"LD DINT#5 ^ST n", api.ErrType}, {"LD T#5ms ^ST d", api.ErrType}, {"LD BOOL#1 ^ST n", api.ErrType}, {"LD TRUE ^ST n", api.ErrType},
		{"^LDN 1 ST b", api.ErrType}, {"^LDN 0 ST b", api.ErrType}, {"^LDN INT#1 ST b", api.ErrType}, {"^LDN DINT#1 ST b", api.ErrType}, {"^LDN T#1ms ST b", api.ErrType},
		{"^LDN 40000 ST b", api.ErrType}, {"^LDN 2147483648 ST b", api.ErrType},
		{"^LD -5 ST n", api.ErrStmt}, {"^LD +5 ST n", api.ErrStmt}, {"^LD INT ST n", api.ErrStmt},
	})
}

// operation is a word of two values: its instruction, and of each type that has it the type of what comes out.
type operation struct {
	word, sign string
	out        [5]int
	turned     bool
}

var operations = []operation{
	{word: "AND", sign: "AND", out: [5]int{0, api.TBool, api.TInt, api.TDint, 0}},
	{word: "OR", sign: "OR", out: [5]int{0, api.TBool, api.TInt, api.TDint, 0}},
	{word: "XOR", sign: "XOR", out: [5]int{0, api.TBool, api.TInt, api.TDint, 0}},
	{word: "ANDN", sign: "AND", out: [5]int{0, api.TBool, 0, 0, 0}, turned: true},
	{word: "ORN", sign: "OR", out: [5]int{0, api.TBool, 0, 0, 0}, turned: true},
	{word: "ADD", sign: "+", out: [5]int{0, 0, api.TInt, api.TDint, api.TTime}},
	{word: "SUB", sign: "-", out: [5]int{0, 0, api.TInt, api.TDint, api.TTime}},
	{word: "MUL", sign: "*", out: [5]int{0, 0, api.TInt, api.TDint, 0}},
	{word: "DIV", sign: "/", out: [5]int{0, 0, api.TInt, api.TDint, 0}},
	{word: "MOD", sign: "MOD", out: [5]int{0, 0, api.TInt, api.TDint, 0}},
	{word: "GT", sign: ">", out: [5]int{0, 0, api.TBool, api.TBool, api.TBool}},
	{word: "GE", sign: ">=", out: [5]int{0, 0, api.TBool, api.TBool, api.TBool}},
	{word: "EQ", sign: "=", out: [5]int{0, api.TBool, api.TBool, api.TBool, api.TBool}},
	{word: "NE", sign: "<>", out: [5]int{0, api.TBool, api.TBool, api.TBool, api.TBool}},
	{word: "LE", sign: "<=", out: [5]int{0, 0, api.TBool, api.TBool, api.TBool}},
	{word: "LT", sign: "<", out: [5]int{0, 0, api.TBool, api.TBool, api.TBool}},
}

// behind answers the code of the operation with an operand of this code, at a type.
func (o operation) behind(operand string, typ int) string {
	if o.turned {
		operand += "; ONE NOT BOOL"
	}
	return operand + "; TWO " + o.sign + " " + typeNames[typ]
}

// holds fails the test unless the operation, at this type, and with an operand of the same type and this code, is made, or is none of it.
func (o operation) holds(t *testing.T, typ int, operand, code string) {
	t.Helper()
	from, load, _, _ := of(typ)
	if o.out[typ] == 0 {
		refuses(t, from+o.word+" "+operand, len(from), api.ErrType)
		return
	}
	_, _, to, store := of(o.out[typ])
	makes(t, from+o.word+" "+operand+to, load+o.behind(code, typ)+store)
}

// 18.1: each operation at each type, with each variable and field
func TestOperations(t *testing.T) {
	for _, o := range operations {
		for _, c := range cells {
			for typ := api.TBool; typ <= api.TTime; typ++ {
				if typ == c.typ {
					o.holds(t, typ, c.name, "LOAD "+c.cell)
					continue
				}
				from, _, _, _ := of(typ)
				refuses(t, from+o.word+" "+c.name, len(from), api.ErrType)
			}
			refuses(t, o.word+" "+c.name, 0, api.ErrStmt)
		}
	}
}

// 18.1: each operation at each type, with numbers of that type, of another one, and of none
func TestOperationsWithNumbers(t *testing.T) {
	typed := [...][]string{
		api.TBool: {"TRUE=1", "FALSE=0", "BOOL#1=1", "BOOL#0=0"},
		api.TInt:  {"INT#7=7", "INT#-32768=-32768", "INT#32767=32767"},
		api.TDint: {"DINT#7=7", "DINT#-2147483648=-2147483648", "DINT#2147483647=2147483647"},
		api.TTime: {"T#7ms=7", "TIME#1s=1000", "T#0ms=0"},
	}
	untyped := [...][]string{
		api.TInt:  {"0=0", "7=7", "32767=32767", "16#7F=127", "16#FFFFFFFF=-1", "16#FFFF8000=-32768"},
		api.TDint: {"0=0", "7=7", "32767=32767", "32768=32768", "2147483647=2147483647", "16#80000000=-2147483648", "16#FFFF7FFF=-32769"},
	}
	tooGreat := [...]string{api.TInt: "32768 40000 2147483647 2147483648 16#8000 16#FFFF7FFF 16#80000000", api.TDint: "2147483648"}
	for _, o := range operations {
		for typ := api.TBool; typ <= api.TTime; typ++ {
			from, _, _, _ := of(typ)
			for other, numbers := range typed {
				for _, pair := range numbers {
					number, worth, _ := strings.Cut(pair, "=")
					if other == typ {
						o.holds(t, typ, number, "PUSH "+typeNames[typ]+" "+worth)
						continue
					}
					refuses(t, from+o.word+" "+number, len(from), api.ErrType)
				}
			}
			if typ == api.TBool || typ == api.TTime {
				for _, number := range []string{"0", "1", "7", "40000", "2147483648"} {
					refuses(t, from+o.word+" "+number, len(from), api.ErrType)
				}
				continue
			}
			for _, pair := range untyped[typ] {
				number, worth, _ := strings.Cut(pair, "=")
				o.holds(t, typ, number, "PUSH "+typeNames[typ]+" "+worth)
			}
			for _, number := range strings.Fields(tooGreat[typ]) {
				e := api.ErrRange
				if o.out[typ] == 0 {
					e = api.ErrType
				}
				refuses(t, from+o.word+" "+number, len(from), e)
			}
		}
		refuses(t, o.word+" 7", 0, api.ErrStmt)
		refuses(t, o.word+" TRUE", 0, api.ErrStmt)
	}
}

// 18.1: NOT and NEG at each type, and with nothing under way
func TestOperationsOfOne(t *testing.T) {
	makesAll(t, []made1{
		{"LD b NOT ST b", "LOAD 8; ONE NOT BOOL; STORE 8"}, {"LD n NOT ST n", "LOAD 9; ONE NOT INT; STORE 9"}, {"LD d NOT ST d", "LOAD 10; ONE NOT DINT; STORE 10"},
		{"LD n NEG ST n", "LOAD 9; ONE NEG INT; STORE 9"}, {"LD d NEG ST d", "LOAD 10; ONE NEG DINT; STORE 10"}, {"LD e NEG ST e", "LOAD 11; ONE NEG TIME; STORE 11"},
		{"LD 5 NEG NEG NOT ST n", "PUSH INT 5; ONE NEG INT; ONE NEG INT; ONE NOT INT; STORE 9"},
		{"LD TRUE NOT NOT ST b", "PUSH BOOL 1; ONE NOT BOOL; ONE NOT BOOL; STORE 8"},
		{"LD n GT 5 NOT ST b", "LOAD 9; PUSH INT 5; TWO > INT; ONE NOT BOOL; STORE 8"},
	})
	refusesAll(t, []refusal{
		{"LD e ^NOT ST e", api.ErrType}, {"LD b ^NEG ST b", api.ErrType}, {"LD TRUE ^NEG", api.ErrType}, {"LD T#5ms ^NOT", api.ErrType},
		{"^NOT", api.ErrStmt}, {"^NEG", api.ErrStmt}, {"LD b ST b ^NOT", api.ErrStmt}, {"LD n ST n ^NEG", api.ErrStmt}, {"LD n GT 5 ^NEG", api.ErrType},
	})
}

// 18.1: what comes out is under way, and goes on
func TestOneBehindTheOther(t *testing.T) {
	makesAll(t, []made1{
		{"LD n ADD 1 MUL in1 SUB c.cv DIV 2 MOD 7 AND 15 OR 16 XOR n NEG ST on", "LOAD 9; PUSH INT 1; TWO + INT; LOAD 1; TWO * INT; LOAD 73; TWO - INT; PUSH INT 2; TWO / INT; PUSH INT 7; TWO MOD INT; PUSH INT 15; TWO AND INT; PUSH INT 16; TWO OR INT; LOAD 9; TWO XOR INT; ONE NEG INT; STORE 5"},
		{"LD d GE 70000 AND b ORN i XOR TRUE EQ o NE FALSE ST o", "LOAD 10; PUSH DINT 70000; TWO >= DINT; LOAD 8; TWO AND BOOL; LOAD 0; ONE NOT BOOL; TWO OR BOOL; PUSH BOOL 1; TWO XOR BOOL; LOAD 4; TWO = BOOL; PUSH BOOL 0; TWO <> BOOL; STORE 4"},
		{"LD it ADD T#1s SUB e LE ot S b", "LOAD 3; PUSH TIME 1000; TWO + TIME; LOAD 11; TWO - TIME; LOAD 7; TWO <= TIME; FALSE 10; PUSH BOOL 1; STORE 8"},
		{"LD 40000 ADD 5 ST d LD 5 ADD 5 ST n", "PUSH DINT 40000; PUSH DINT 5; TWO + DINT; STORE 10; PUSH INT 5; PUSH INT 5; TWO + INT; STORE 9"},
		{"LD n ST n LD b R o LD TRUE S o", "LOAD 9; STORE 9; LOAD 8; FALSE 6; PUSH BOOL 0; STORE 4; PUSH BOOL 1; FALSE 10; PUSH BOOL 1; STORE 4"},
		{"LD 5 GT 3 S b", "PUSH INT 5; PUSH INT 3; TWO > INT; FALSE 6; PUSH BOOL 1; STORE 8"},
	})
	refusesAll(t, []refusal{
		{"LD n GT 5 ^ADD 5", api.ErrType}, {"LD n GT 5 ^AND 1", api.ErrType}, {"LD n GT 5 ^ST n", api.ErrType}, {"LD n ADD 5 ^S b", api.ErrType}, {"LD 5 ^ADD d", api.ErrType}, {"LD 40000 ^ADD n", api.ErrType}, {"LD 5 ^ADD 40000", api.ErrRange},
		{"LD n ST n ^ADD 5", api.ErrStmt}, {"LD b S b ^NOT", api.ErrStmt}, {"LD b R b ^ST b", api.ErrStmt}, {"LD b S b ^R o", api.ErrStmt},
	})
}

// 18.1: calls of blocks of each kind, and RET
func TestCallsAndReturns(t *testing.T) {
	makesAll(t, []made1{
		{"CAL t", "CALL TON 51"}, {"CAL f", "CALL TOF 57"}, {"CAL g", "CALL TP 63"}, {"CAL c", "CALL CTU 69"}, {"CAL k", "CALL CTD 75"},
		{"CAL r", "CALL R_TRIG 81"}, {"CAL w", "CALL F_TRIG 84"}, {"CAL s", "CALL SR 87"}, {"CAL z", "CALL RS 90"}, {"CAL q", "CALL QUAD 93"},
		{"CAL t CAL t RET CAL q", "CALL TON 51; CALL TON 51; END; CALL QUAD 93"},
		{"LD i ST t.in LD T#5s ST t.pt CAL t LD t.q ST o", "LOAD 0; STORE 51; PUSH TIME 5000; STORE 52; CALL TON 51; LOAD 53; STORE 4"},
		{"RET", "END"}, {"RET RET", "END; END"}, {"RET LD n ST n", "END; LOAD 9; STORE 9"}, {"LD n ST n RET", "LOAD 9; STORE 9; END"},
	})
	for _, c := range cells {
		want := api.ErrKind
		if strings.Contains(c.name, ".") {
			continue
		}
		refuses(t, "CAL "+c.name, 0, want)
	}
	refusesAll(t, []refusal{
		{"^CAL x", api.ErrKind}, {"^CAL xb", api.ErrKind}, {"^CAL nobody", api.ErrName}, {"^CAL p", api.ErrName},
		{"LD b ^CAL t", api.ErrStmt}, {"LD n ^CAL n", api.ErrStmt}, {"LD e ^CAL nobody", api.ErrStmt}, {"LD b ^RET", api.ErrStmt}, {"LD d ^RET", api.ErrStmt},
		{"CAL t ^.q", api.ErrStmt}, {"RET ^t", api.ErrStmt},
	})
}

// 18.1, chapter 5: small letters, blanks and notes change nothing
func TestLetters(t *testing.T) {
	want := "LOAD 8; LOAD 0; ONE NOT BOOL; TWO AND BOOL; ONE NOT BOOL; FALSE 0; CALL TON 51; END"
	makesAll(t, []made1{
		{"again:LD b ANDN i JMPC again CAL t RET", want}, {"AGAIN : ld B andn I jmpc Again cal T ret", want},
		{"aGaIn\n:\n  Ld(*LD*)b//LD n\nAndN{LD}I\r\njMpC\tagain Cal t Ret", want},
	})
	makesAll(t, []made1{{"ld t . q st b", "LOAD 53; STORE 8"}, {"LD T.(*.*)Q ST B", "LOAD 53; STORE 8"}})
}

// 18.1: the image has the head's name, cells, inputs and outputs
func TestMemory(t *testing.T) {
	x := made(t, `program Whole var_output o : bool := true; end_var var_input i : int := -7; end_var var t : ton; x : array[0..2] of dint; e : time := t#5s; end_var
		var_output u : time; end_var var_input j : bool; end_var end_program`, "LD j ST t.in LD i EQ 5 ST o LD e ST u")
	types := []int{api.TBool, api.TInt, api.TBool, api.TTime, api.TBool, api.TTime, api.TTime, api.TBool, api.TDint, api.TDint, api.TDint, api.TTime, api.TTime, api.TBool}
	first := []int64{1, -7, 0, 0, 0, 0, 0, 0, 0, 0, 0, 5000, 0, 0}
	if x.Name != "WHOLE" || !slices.Equal(x.Types, types) || !slices.Equal(x.First, first) || !slices.Equal(x.In, []int{1, 13}) || !slices.Equal(x.Out, []int{0, 12}) {
		t.Error(x)
	}
	if got := text(x.Code); got != "LOAD 13; STORE 2; LOAD 1; PUSH INT 5; TWO = INT; STORE 0; LOAD 11; STORE 12; END" {
		t.Error(got)
	}
}

package ilist_test

import (
	"testing"

	"capstan/api"
)

// 18.1: labels ahead of their jumps and behind them, at the beginning, at the end, several at one place
func TestLabels(t *testing.T) {
	makesAll(t, []made1{
		{"l:", ""}, {"l: m: n:", ""}, {"l: JMP l", "JUMP 0"}, {"JMP l l:", "JUMP 1"}, {"JMP l JMP l l: JMP l", "JUMP 2; JUMP 2; JUMP 2"},
		{"l: LD b JMPC l", "LOAD 8; ONE NOT BOOL; FALSE 0"}, {"LD b JMPC l l:", "LOAD 8; ONE NOT BOOL; FALSE 3"},
		{"l: LD b JMPCN l", "LOAD 8; FALSE 0"}, {"LD b JMPCN l l:", "LOAD 8; FALSE 2"},
		{"LD b JMPC l RET l:", "LOAD 8; ONE NOT BOOL; FALSE 4; END"},
		{"a: b: LD b JMPC c LD n ST n JMP a c: d: LD d ST d JMP b JMP d", "LOAD 8; ONE NOT BOOL; FALSE 6; LOAD 9; STORE 9; JUMP 0; LOAD 10; STORE 10; JUMP 0; JUMP 6"},
		{"LD b S o l: LD b R o JMP l", "LOAD 8; FALSE 4; PUSH BOOL 1; STORE 4; LOAD 8; FALSE 8; PUSH BOOL 0; STORE 4; JUMP 4"},
		{"l: RET JMP l", "END; JUMP 0"}, {"JMP m l: JMP n m: JMP l n:", "JUMP 2; JUMP 3; JUMP 1"},
		{"CAL t l: CAL q LD n GT 5 JMPCN l LD n LT 5 JMPC m m:", "CALL TON 51; CALL QUAD 93; LOAD 9; PUSH INT 5; TWO > INT; FALSE 1; LOAD 9; PUSH INT 5; TWO < INT; ONE NOT BOOL; FALSE 11"},
	})
}

// 18.1: a label may be named as a variable, a field, the program, or a word of lines, in small letters or in capitals
func TestLabelNames(t *testing.T) {
	for _, name := range []string{
		"n", "b", "x", "t", "clk", "p", "nobody", "_", "_1", "l_1_", "abcdefghijklmnopqrstuvwx",
		"LD", "LDN", "ST", "S", "R", "ANDN", "ORN", "ADD", "SUB", "MUL", "DIV", "GT", "GE", "EQ", "NE", "LE", "LT", "NEG", "RET", "JMP", "JMPC", "JMPCN", "CAL", "ld", "Ret", "jmp",
	} {
		makes(t, name+": LD b JMPC "+name+" JMP "+name, "LOAD 8; ONE NOT BOOL; FALSE 0; JUMP 0")
		makes(t, "JMP "+name+" LD n ST n "+name+" : RET", "JUMP 3; LOAD 9; STORE 9; END")
		makes(t, "LD b JMPCN "+name+" "+name+":", "LOAD 8; FALSE 2")
		refuses(t, "JMP "+name, 0, api.ErrLabel)
	}
	makesAll(t, []made1{
		{"Again: JMP aGAIN", "JUMP 0"}, {"LD: LD n ST n ST: LD n ST n JMP LD JMP st", "LOAD 9; STORE 9; LOAD 9; STORE 9; JUMP 0; JUMP 2"},
		{"JMP JMP JMP: JMP JMP", "JUMP 1; JUMP 1"}, {"NEG: LD n NEG ST n JMP NEG", "LOAD 9; ONE NEG INT; STORE 9; JUMP 0"}, {"RET RET: RET", "END; END"},
		{"CAL: CAL t JMP CAL", "CALL TON 51; JUMP 0"}, {"S: LD S.q1 S b R: LD R.q R b JMP S JMP R", "LOAD 89; FALSE 4; PUSH BOOL 1; STORE 8; LOAD 82; FALSE 8; PUSH BOOL 0; STORE 8; JUMP 0; JUMP 4"},
	})
}

// 18.1: variables may be named as words of lines
func TestVariablesNamedAsWords(t *testing.T) {
	const head = "program ret var ld, add : int; end_var end_program"
	refusesOf(t, head, "", -1, api.ErrDecl)
	x := made(t, "program ret var ld : int; add : int; st : int; s : bool; r : bool; jmp : bool; cal : ton; end_var end_program",
		"st: LD ld ADD add ST st LD s S s R: LD r R r LD jmp JMPC st JMP R CAL cal LD cal.q ST jmp RET")
	if got := text(x.Code); got != "LOAD 0; LOAD 1; TWO + INT; STORE 2; LOAD 3; FALSE 8; PUSH BOOL 1; STORE 3; LOAD 4; FALSE 12; PUSH BOOL 0; STORE 4; LOAD 5; ONE NOT BOOL; FALSE 0; JUMP 8; CALL TON 6; LOAD 8; STORE 5; END; END" {
		t.Error(got)
	}
}

// 18.1: keywords are no names: of no label, no jump, no variable
func TestKeywordsAreNoNames(t *testing.T) {
	for _, word := range []string{
		"PROGRAM", "END_PROGRAM", "VAR", "VAR_INPUT", "VAR_OUTPUT", "END_VAR", "ARRAY", "OF", "BOOL", "INT", "DINT", "TIME", "TON", "TOF", "TP", "CTU", "CTD", "R_TRIG", "F_TRIG", "SR", "RS", "QUAD",
		"IF", "THEN", "ELSIF", "ELSE", "END_IF", "CASE", "END_CASE", "WHILE", "DO", "END_WHILE", "FOR", "TO", "BY", "END_FOR", "REPEAT", "UNTIL", "END_REPEAT", "EXIT", "RETURN",
		"AND", "OR", "XOR", "NOT", "MOD", "TRUE", "FALSE", "TO_INT", "TO_DINT", "TO_TIME", "if", "Mod",
	} {
		refusesAll(t, []refusal{
			{"^" + word + ":", api.ErrStmt}, {"LD n ST n ^" + word + ": RET", api.ErrStmt}, {"^JMP " + word, api.ErrStmt}, {"LD b ^JMPC " + word, api.ErrStmt}, {"LD b ^JMPCN " + word, api.ErrStmt}, {"^CAL " + word, api.ErrStmt},
		})
		if word == "TRUE" || word == "FALSE" {
			continue
		}
		refusesAll(t, []refusal{{"^LD " + word + " ST n", api.ErrStmt}, {"LD n ^ADD " + word, api.ErrStmt}, {"^LD " + word + ".q", api.ErrStmt}, {"LD n ^ST " + word, api.ErrStmt}})
	}
}

// 18.1: of labels: twice the same, with a value under way
func TestLabelsRefused(t *testing.T) {
	refusesAll(t, []refusal{
		{"l: ^l:", api.ErrLabel}, {"l: LD n ST n ^L:", api.ErrLabel}, {"l: m: ^l: m:", api.ErrLabel}, {"l: JMP l RET ^l : RET", api.ErrLabel}, {"LD: ^ld:", api.ErrLabel}, {"l: l1: _l: ^l1:", api.ErrLabel},
		{"LD n ^l: ST n", api.ErrStmt}, {"LD b ^l:", api.ErrStmt}, {"LD d ^l: l:", api.ErrStmt}, {"LD e ^ld:", api.ErrStmt}, {"l: LD n ADD 1 ^m: ST n", api.ErrStmt},
		// the label that is there comes ahead of the value under way
		{"l: LD n ^l: ST n", api.ErrLabel}, {"l: LD b ^l: JMP m", api.ErrLabel}, {"ld: LD n ^LD:", api.ErrLabel},
	})
}

// 18.1: of jumps: with a value under way and with none, with a BOOL and with another type, to what is not there
func TestJumpsRefused(t *testing.T) {
	refusesAll(t, []refusal{
		{"LD b ^JMP l l:", api.ErrStmt}, {"LD n ^JMP l", api.ErrStmt}, {"l: LD n ^JMP l", api.ErrStmt}, {"l: ^JMPC l", api.ErrStmt}, {"l: ^JMPCN l", api.ErrStmt}, {"^JMPC l", api.ErrStmt}, {"^JMPCN l l:", api.ErrStmt},
		{"l: LD b JMPC l ^JMPC l", api.ErrStmt}, {"l: LD b JMPCN l ^JMPCN l", api.ErrStmt}, {"l: LD b JMPC l ^ST b", api.ErrStmt}, {"l: LD b JMPCN l ^NOT", api.ErrStmt}, {"LD b JMPC l JMP l ^S b l:", api.ErrStmt},
		{"l: LD n ^JMPC l", api.ErrType}, {"l: LD d ^JMPC l", api.ErrType}, {"l: LD e ^JMPC l", api.ErrType}, {"l: LD 1 ^JMPC l", api.ErrType},
		{"l: LD n ^JMPCN l", api.ErrType}, {"l: LD d ^JMPCN l", api.ErrType}, {"l: LD e ^JMPCN l", api.ErrType}, {"l: LD 0 ^JMPCN l", api.ErrType}, {"LD n ^JMPC nobody", api.ErrType}, {"LD n ^JMPCN nobody", api.ErrType},
		{"^JMP l", api.ErrLabel}, {"LD b ^JMPC l", api.ErrLabel}, {"LD b ^JMPCN l", api.ErrLabel}, {"LD n ST n ^JMP n", api.ErrLabel}, {"^JMP t", api.ErrLabel}, {"^JMP ld", api.ErrLabel},
		{"l: ^JMP m", api.ErrLabel}, {"l: JMP l ^JMP l1", api.ErrLabel}, {"m: ^JMP l JMP m JMP k", api.ErrLabel}, {"JMP k ^JMP l JMP m k:", api.ErrLabel}, {"LD b ^JMPC l JMP m LD b JMPCN k", api.ErrLabel}, {"^JMP l LD b JMPC l", api.ErrLabel},
		{"LD b ^JMPCN l LD b JMPC m", api.ErrLabel}, {"LD n ST n LD b JMPC k k: LD b ^JMPC l JMP k", api.ErrLabel},
	})
}

// 18.1: what is wrong with a line comes ahead of a jump whose label is not there; so does a value under way behind all lines
func TestMissingLabelsComeLast(t *testing.T) {
	refusesAll(t, []refusal{
		{"JMP l ^LD nobody", api.ErrName}, {"JMP l LD n ^", api.ErrStmt}, {"JMP l ^ST n", api.ErrStmt}, {"JMP l m: ^m:", api.ErrLabel}, {"JMP l ^5", api.ErrStmt}, {"JMP l ^LD 2147483648", api.ErrRange}, {"JMP l ^#", api.ErrToken},
		{"LD b JMPC l LD b(* *) ^", api.ErrStmt},
	})
}

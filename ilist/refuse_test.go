package ilist_test

import (
	"strings"
	"testing"

	"capstan/api"
	"capstan/lex"
)

var (
	withOperand = strings.Fields("LD LDN ST S R AND ANDN OR ORN XOR ADD SUB MUL DIV MOD GT GE EQ NE LE LT")
	withName    = strings.Fields("JMP JMPC JMPCN CAL")
	alone       = strings.Fields("NOT NEG RET")
)

// ahead answers lines that bring under way what the word takes.
func ahead(word string) string {
	switch word {
	case "LD", "LDN", "JMP", "CAL", "RET":
		return ""
	case "S", "R", "AND", "ANDN", "OR", "ORN", "XOR", "JMPC", "JMPCN", "NOT":
		return "LD b "
	}
	return "LD n "
}

// 18.1: a word with nothing behind it, or with what it does not need
func TestWrongThingsBehindWords(t *testing.T) {
	for _, word := range withOperand {
		for _, behind := range []string{"", ":=", ":= 5", ";", ",", ".", ". q", "(n)", "-5", "- n", "[0]", "AND", "IF", "BOOL", "..", "=", "&", "**", "t.", "t. 5", "t.;", "n.", "n. 5", "nobody.", "nobody.(* *)", "t. -5", "x.", "t.t#5s"} {
			for _, from := range []string{"", "LD b ", "LD n "} {
				refuses(t, from+word+" "+behind, len(from), api.ErrStmt)
			}
		}
	}
	for _, word := range withName {
		for _, behind := range []string{"", ":=", "5", "INT#5", "T#5s", "TRUE", "FALSE", "AND", "NOT", "IF", "BOOL", ";", ".", "(l)", "-", ". l", ", l"} {
			for _, from := range []string{"", "LD b ", "LD n "} {
				refuses(t, from+word+" "+behind, len(from), api.ErrStmt)
			}
		}
	}
	for _, word := range alone {
		from := ahead(word)
		for _, behind := range []string{"5", "TRUE", "n", ":=", ";", ".", "(", "IF"} {
			lines := from + word + " " + behind
			refuses(t, lines, len(from+word)+1, api.ErrStmt)
		}
	}
	refusesAll(t, []refusal{
		{"LD n ^, ST n", api.ErrStmt}, {"LD n^; ST n", api.ErrStmt}, {"^LD x[0]", api.ErrKind}, {"LD n ADD 1 ^2", api.ErrStmt}, {"LD n ^ADD -1", api.ErrStmt}, {"LD n ^& 5", api.ErrStmt}, {"LD n ^:= 5", api.ErrStmt}, {"LD TRUE ^.q", api.ErrStmt}, {"LD 5 ^. 5", api.ErrStmt}, {"LD n ST n ^n", api.ErrStmt}, {"LD t.q ^.q", api.ErrStmt}, {"LD n ^: ST n", api.ErrStmt}, {"l: ^:", api.ErrStmt}, {"JMP l ^: l:", api.ErrStmt},
	})
}

// 18.1: lines that are no lines
func TestNoLine(t *testing.T) {
	for _, line := range []string{
		"5", "INT#5", "T#5s", "TRUE", "FALSE", ":", ":=", "=", ".", ";", ",", "(", ")", "[", "]", "+", "-", "n", "n LD n", "foo", "foo n", "t.q", "LDX n", "LDNN n", "STN n", "SN b", "RN b", "XORN b", "ADDN 1", "NOTN", "RETC", "RETCN", "CALC t", "CALCN t", "JMPN l", "L n",
		"IF", "VAR", "END_PROGRAM", "n := 5", "n := 5;", "t();", "LOAD n", "STORE n", "PUSH 5", "l := 5", "_LD n", "LD_ n", "LD1 n", "EXIT", "&", "&n",
	} {
		refuses(t, line, 0, api.ErrStmt)
		for _, from := range []string{"LD n NEG ", "LD n ST n ", "l: ", "RET ", "JMP l "} {
			// RET with a : behind it is a label, and a name with a . behind it is one operand
			if from == "RET " && line == ":" || from == "LD n NEG " && line == ":" || from == "LD n ST n " && line == "." {
				continue
			}
			refuses(t, from+line, len(from), api.ErrStmt)
		}
	}
}

// 18.1: names that are not there, and things of another kind
func TestNamesAndKinds(t *testing.T) {
	for _, word := range withOperand {
		from := ahead(word)
		for _, name := range []string{"nobody", "p", "clk", "nobody.q", "p.q", "ld", "q1.q", "n1", "n_"} {
			refuses(t, from+word+" "+name, len(from), api.ErrName)
		}
		for _, name := range []string{"x", "xb", "xd", "xt", "t", "f", "g", "c", "k", "r", "w", "s", "z", "q", "n.q", "b.q", "i.in", "x.q", "xb.in", "t.z", "t.cv", "c.in", "c.ld", "k.r", "r.in", "s.s", "z.s1", "q.q", "t.t", "t.if", "t.true", "t.int", "t.q_"} {
			refuses(t, from+word+" "+name, len(from), api.ErrKind)
		}
	}
	for _, word := range []string{"ST", "S", "R"} {
		from := ahead(word)
		for _, number := range []string{"5", "0", "1", "TRUE", "FALSE", "BOOL#1", "INT#5", "DINT#5", "T#5s", "40000", "2147483648"} {
			refuses(t, from+word+" "+number, len(from), api.ErrKind)
		}
	}
}

// 18.1: a value under way that must not be, and none where one must be, ahead of all that is wrong with names, kinds and types
func TestValueUnderWay(t *testing.T) {
	operands := []string{"b", "n", "d", "e", "i", "t.q", "t.z", "x", "t", "nobody", "nobody.q", "5", "40000", "2147483648", "TRUE", "INT#5", "T#5s"}
	for _, word := range withOperand {
		for _, operand := range operands {
			if ahead(word) == "" {
				for _, from := range []string{"LD b ", "LD n ", "LD d ", "LD e ", "LD n ADD 1 ", "LDN b ", "LD 5 NEG "} {
					refuses(t, from+word+" "+operand, len(from), api.ErrStmt)
				}
				continue
			}
			for _, from := range []string{"", "LD n ST n ", "l: ", "CAL t ", "RET ", "LD b S b ", "LD b R b ", "l: LD b JMPC l ", "l: LD b JMPCN l ", "l: JMP l "} {
				refuses(t, from+word+" "+operand, len(from), api.ErrStmt)
			}
		}
	}
	refusesAll(t, []refusal{
		{"LD b^", api.ErrStmt}, {"LD n ^", api.ErrStmt}, {"LD d // LD n\n^", api.ErrStmt}, {"LD e{}\t^", api.ErrStmt}, {"LDN b^", api.ErrStmt}, {"LD n ADD 1^", api.ErrStmt}, {"LD n NEG^", api.ErrStmt}, {"LD n ST n LD 5 GT 3^", api.ErrStmt}, {"RET LD n^", api.ErrStmt},
	})
}

// 18.1: two refusals that are due in one line: the one that is named first
func TestOrderInALine(t *testing.T) {
	refusesAll(t, []refusal{
		// no line, ahead of a label twice, of a value under way, of all others
		{"LD b ^JMP 5", api.ErrStmt}, {"LD n ^IF:", api.ErrStmt}, {"l: ^IF:", api.ErrStmt}, {"^ST nobody.", api.ErrStmt}, {"LD n ^ADD t.", api.ErrStmt},
		// a label twice ahead of a value under way
		{"l: LD n ^l:", api.ErrLabel},
		// a value under way ahead of a name that is not there, of a kind, a type, a range
		{"LD b ^LD nobody", api.ErrStmt}, {"^ADD nobody", api.ErrStmt}, {"LD b ^CAL nobody", api.ErrStmt}, {"LD b ^LD t", api.ErrStmt}, {"^ST 5", api.ErrStmt}, {"^ST i", api.ErrStmt}, {"^S t.q", api.ErrStmt}, {"LD b ^CAL b", api.ErrStmt},
		{"LD b ^LDN n", api.ErrStmt}, {"LD b ^LD 2147483648", api.ErrStmt}, {"^ADD 2147483648", api.ErrStmt}, {"^ANDN n", api.ErrStmt},
		// a name that is not there ahead of a type; a kind ahead of a type
		{"LD n ^S nobody", api.ErrName}, {"LD n ^ANDN nobody", api.ErrName}, {"LD b ^ADD nobody", api.ErrName}, {"LD b ^ADD nobody.q", api.ErrName}, {"LD e ^MUL nobody", api.ErrName},
		{"LD n ^S i", api.ErrKind}, {"LD n ^S t.q", api.ErrKind}, {"LD n ^R 5", api.ErrKind}, {"LD n ^S TRUE", api.ErrKind}, {"LD b ^ST in1", api.ErrKind}, {"LD b ^ST c.cv", api.ErrKind}, {"LD n ^ST i", api.ErrKind}, {"LD b ^ST 5", api.ErrKind}, {"LD b ^ST 40000", api.ErrKind}, {"LD n ^ST 40000", api.ErrKind},
		{"LD b ^ADD x", api.ErrKind}, {"LD b ^ADD t.z", api.ErrKind}, {"LD e ^MUL t", api.ErrKind}, {"LD n ^ANDN t", api.ErrKind}, {"^LDN x", api.ErrKind}, {"^LDN t.z", api.ErrKind}, {"^LDN nobody", api.ErrName},
		// a type ahead of a range
		{"LD b ^ADD 40000", api.ErrType}, {"LD b ^AND 2147483648", api.ErrType}, {"LD e ^ADD 2147483648", api.ErrType}, {"LD e ^MUL 2147483648", api.ErrType}, {"LD n ^ANDN 40000", api.ErrType}, {"LD d ^ORN 2147483648", api.ErrType}, {"^LDN 2147483648", api.ErrType}, {"LD b ^GT 40000", api.ErrType},
	})
}

// 18.1: the first line that is wrong tells, with its place
func TestFirstLineTells(t *testing.T) {
	refusesAll(t, []refusal{
		{"^LD nobody ST x ADD", api.ErrName}, {"LD n ^ST d LD nobody", api.ErrType}, {"LD n ST n ^LD x 5", api.ErrKind}, {"LD n ST n l: ^l: LD", api.ErrLabel}, {"LD n ^ADD 40000 foo", api.ErrRange}, {"  \n (* *) ^foo LD n", api.ErrStmt}, {"LD n(**)ST n{}^LD x", api.ErrKind},
		{"^LD nobody JMP l", api.ErrName}, {"^LD", api.ErrStmt}, {"LD n ST n\n\n\t^LD", api.ErrStmt},
	})
}

// 18.1: what chapter 5 refuses of lines comes ahead of all that is wrong line by line, with its place
func TestTokensRefused(t *testing.T) {
	for _, lines := range []string{
		"#", "LD n #", "foo #", "LD nobody ST 5 LD ?", "LD n ADD 40000 %", "l: l: \"", "LD INT#40000", "LD 2147483649", "LD 5_", "LD 16#", "LD BOOL#2", "LD T#", "LD X#5", "(* LD n", "LD n { ST n", "5 (*", "LD abcdefghijklmnopqrstuvwxy ST n", "JMP l abcdefghijklmnopqrstuvwxy:", "LD\x00", "LD n \xff", "LD é",
		strings.Repeat(" ", api.MaxBytes+1), strings.Repeat("RET ", api.MaxTokens), strings.Repeat("5 ", api.MaxTokens), strings.Repeat("RET ", api.MaxTokens) + "#",
	} {
		_, f := lex.Tokens(lines)
		if f.Code == api.OK {
			t.Fatalf("%.100q has tokens", lines)
		}
		refuses(t, lines, f.At, f.Code)
	}
	refusesAll(t, []refusal{
		{"foo ^#", api.ErrToken}, {"LD n ADD ^INT#40000", api.ErrToken}, {"LD nobody ^(*", api.ErrToken}, {"l: l: ^abcdefghijklmnopqrstuvwxy:", api.ErrToken},
		{"^" + strings.Repeat(" ", api.MaxBytes+1), api.ErrLong}, {strings.Repeat("5 ", api.MaxTokens) + "^", api.ErrLong}, {strings.Repeat("5 ", api.MaxTokens-1) + "5 ^#", api.ErrLong},
	})
}

package ilist_test

import (
	"fmt"
	"strings"
	"testing"

	"capstan/api"
	"capstan/lex"
	"capstan/verify"
)

// padded answers lines that end with these, so that the code of all and the END behind them is so long.
func padded(t *testing.T, last string, whole int) string {
	t.Helper()
	left := whole - len(made(t, head, last).Code)
	var b strings.Builder
	for left >= 302 {
		// fewer tokens than instructions, or there would be too many of them
		b.WriteString("LD b " + strings.Repeat("ANDN i ", 100) + "ST b ")
		left -= 302
	}
	b.WriteString(strings.Repeat("RET ", left))
	return b.String() + last
}

// kindsOfLines are lines of each kind, with what is needed ahead of them and behind.
var kindsOfLines = []string{
	"", "RET", "l:", "CAL t", "l: JMP l", "JMP l l:", "l: LD b JMPC l", "l: LD b JMPCN l", "LD n ST n", "LDN b ST b", "LD 5 ST n", "LD b S o", "LD b R o", "LD b AND i ST b", "LD b ANDN i ST b", "LD b ORN TRUE ST b", "LD n ADD 5 ST n", "LD n NEG ST n", "LD n GT 5 NOT ST b",
}

// 18.1: code of MaxCode instructions, and of some more, with each kind of line as the last one
func TestLongestCode(t *testing.T) {
	for _, last := range kindsOfLines {
		for _, less := range []int{0, 1} {
			lines := padded(t, last, api.MaxCode-less)
			x, e := holds(t, head, lines)
			if e != api.OK || len(x.Code) != 4096-less {
				t.Errorf("%s: %d, %d instructions", last, e, len(x.Code))
			}
			if at, e := verify.Check(x); at != 0 || e != api.OK {
				t.Errorf("%s: %d, %d", last, at, e)
			}
		}
		for _, more := range []int{1, 2, 3, 100, 1000} {
			refuses(t, padded(t, last, api.MaxCode+more), 0, api.ErrLong)
		}
	}
}

// 18.1: what is wrong line by line, with a value under way behind all, or with a jump, comes ahead of code that is too long
func TestTooLongAndWrong(t *testing.T) {
	long := padded(t, "", api.MaxCode+100)
	for _, c := range []refusal{
		{"^foo", api.ErrStmt}, {"^LD nobody ST n", api.ErrName}, {"^LD x", api.ErrKind}, {"LD n ^ST d", api.ErrType}, {"^LD 2147483648", api.ErrRange}, {"l: ^l:", api.ErrLabel}, {"LD n ^", api.ErrStmt}, {"^JMP l", api.ErrLabel}, {"LD b ^JMPC l", api.ErrLabel}, {"LD n ^LD n", api.ErrStmt}, {"^ST n", api.ErrStmt}, {"RET ^#", api.ErrToken},
	} {
		lines, at := placed(c.lines)
		refuses(t, long+lines, len(long)+at, c.e)
		if strings.HasPrefix(lines, "JMP l") {
			refuses(t, lines+" "+long, at, c.e)
		}
	}
	refusesOf(t, "program p return; end_program", long, -1, api.ErrStmt)
	refusesOf(t, "program p", long, -1, api.ErrDecl)
}

// 18.1: places behind the last instruction that may be are told as others are
func TestJumpsAcrossAll(t *testing.T) {
	x := made(t, head, "JMP l "+padded(t, "l:", api.MaxCode-1))
	if x.Code[0] != (api.Instr{Op: api.IJump, A: 4095}) || x.Code[4095] != (api.Instr{Op: api.IEnd}) {
		t.Error(x.Code[0], x.Code[4095])
	}
	x = made(t, head, "l: "+padded(t, "", api.MaxCode-2)+"LD b JMPCN l")
	if x.Code[4094] != (api.Instr{Op: api.IFalse}) {
		t.Error(x.Code[4094])
	}
	x = made(t, head, padded(t, "LD b S o", api.MaxCode))
	if x.Code[4092] != (api.Instr{Op: api.IFalse, A: 4095}) {
		t.Error(x.Code[4092])
	}
}

// 18.1, chapter 5: as many tokens and bytes as may be, and one more
func TestLongestLines(t *testing.T) {
	most := strings.Repeat("RET ", api.MaxTokens-1)
	if l, f := lex.Tokens(most); len(l) != api.MaxTokens || f.Code != api.OK {
		t.Fatal(len(l), f)
	}
	if x := made(t, head, most); len(x.Code) != api.MaxCode {
		t.Error(len(x.Code))
	}
	refuses(t, most+"RET ", len(most)+len("RET "), api.ErrLong)
	wide := "LD n" + strings.Repeat(" ", api.MaxBytes-len("LD nST n")) + "ST n"
	makes(t, wide, "LOAD 9; STORE 9")
	refuses(t, wide+" ", 0, api.ErrLong)
	refuses(t, strings.Replace(wide, "ST n", "ST d", 1), len(wide)-len("ST n"), api.ErrType)
	refuses(t, strings.Replace(wide, "ST n", "    ", 1), len(wide), api.ErrStmt)
	holds(t, head, "LD n "+strings.Repeat("ADD 1 ", (api.MaxTokens-5)/2)+"ST n")
	holds(t, head, "LD n "+strings.Repeat("NEG ", api.MaxTokens-5)+"ST n")
	holds(t, head, "LD n "+strings.Repeat("NEG ", api.MaxTokens-3))
	holds(t, head, "LD b "+strings.Repeat("ANDN i ORN i ", (api.MaxTokens-5)/4)+"ST b")
}

// 18.1: as many labels, and jumps, as there may be tokens for
func TestManyLabels(t *testing.T) {
	var labels, both, back strings.Builder
	for k := range (api.MaxTokens - 1) / 2 {
		fmt.Fprintf(&labels, "l%d: ", k)
	}
	for k := range (api.MaxTokens - 1) / 4 {
		fmt.Fprintf(&both, "JMP l%d l%d: ", (k*7+3)%1023, k)
		fmt.Fprintf(&back, "l%d: JMP l%d ", k, 1022-k)
	}
	for _, lines := range []string{labels.String(), both.String(), back.String()} {
		if _, e := holds(t, head, lines); e != api.OK {
			t.Error(e)
		}
	}
	refuses(t, labels.String()[len("l0: "):]+"l2046: ", labels.Len()-len("l0: "), api.ErrLabel)
	holds(t, head, strings.Replace(both.String(), "l5:", "n5:", 1))
	refuses(t, strings.Repeat("JMP l ", (api.MaxTokens-1)/2), 0, api.ErrLabel)
}

// 18.1, chapter 9: as many variables and cells as there may be
func TestGreatHeads(t *testing.T) {
	x := made(t, "program p var "+many(64)+"end_var end_program", "LD v63 ADD v0 ST v62")
	if got := text(x.Code); got != "LOAD 63; LOAD 0; TWO + INT; STORE 62; END" || len(x.Types) != 64 {
		t.Error(got, len(x.Types))
	}
	full := "program p var " + arrays(31) + "rest : array[0..25] of time; t : ton; end_var end_program"
	x = made(t, full, "CAL t LD t.run ST t.in")
	if got := text(x.Code); got != "CALL TON 1018; LOAD 1023; STORE 1018; END" || len(x.Types) != 1024 {
		t.Error(got, len(x.Types))
	}
	refusesOf(t, strings.Replace(full, "0..25", "0..26", 1), "", -1, api.ErrLong)
	long, other := strings.Repeat("x", api.MaxName), strings.Repeat("y", api.MaxName)
	x = made(t, "program "+long+" var "+other+" : int; end_var end_program", other+": LD "+other+" ST "+other+" JMP "+other)
	if got := text(x.Code); x.Name != strings.ToUpper(long) || got != "LOAD 0; STORE 0; JUMP 0; END" {
		t.Error(x.Name, got)
	}
	refusesOf(t, "program "+long+"x end_program", "", -1, api.ErrToken)
}

package lex_test

import (
	"strings"
	"testing"

	"capstan/api"
)

// 5.1
func TestNumbers(t *testing.T) {
	for _, c := range []struct {
		s string
		n int64
	}{
		{"0", 0}, {"00", 0}, {"5", 5}, {"007", 7}, {"1234567890", 1234567890}, {"1_0", 10}, {"1_2_3", 123}, {"1_000_000", 1000000}, {"0_0", 0}, {"9_9", 99},
		{"2147483647", 2147483647}, {"2147483648", 2147483648}, {"2_147_483_648", 2147483648}, {"0000000000000000000002147483648", 2147483648},
		{"2#0", 0}, {"2#1", 1}, {"2#101", 5}, {"2#1_0_1", 5}, {"2#0000_0001", 1}, {"8#7", 7}, {"8#17", 15}, {"8#1_7", 15},
		{"16#0", 0}, {"16#9", 9}, {"16#a", 10}, {"16#F", 15}, {"16#1f", 31}, {"16#aB_Cd", 0xabcd}, {"16#a_b", 0xab}, {"16#0_f", 15},
		{"2#1111111111111111111111111111111", 2147483647}, {"8#17777777777", 2147483647}, {"16#7FFFFFFF", 2147483647},
		{"2#10000000000000000000000000000000", -2147483648}, {"8#20000000000", -2147483648}, {"16#80000000", -2147483648}, {"16#80000001", -2147483647},
		{"2#11111111111111111111111111111111", -1}, {"8#37777777777", -1}, {"16#FFFFFFFF", -1}, {"16#ffff_fffe", -2}, {"16#0000000000FFFFFFFF", -1},
	} {
		has(t, c.s, number(c.n))
		has(t, c.s+" "+c.s, number(c.n), number(c.n))
		has(t, "-"+c.s+";", sign("-"), number(c.n), sign(";"))
	}
}

// 5.1
func TestNumbersThatAreNone(t *testing.T) {
	for _, s := range []string{
		"5_", "5__0", "5_0_", "5_0__1", "0_", "5_a", "5_ 0", "5_#", "5_.", "1_6_#1",
		"2147483649", "2147483650", "4294967295", "4294967296", "9223372036854775807", "9223372036854775808", "18446744073709551616", "18446744073709551621", "21474836480", "2_147_483_649",
		strings.Repeat("9", 400),
		"2#", "8#", "16#", "2# 1", "8# 7", "16# f", "2#;", "2#_1", "8#_1", "16#_f", "2#_", "2##1", "16##1", "2#-1", "16#-1", "2#é",
		"2#1_", "8#7_", "16#f_", "2#1__1", "16#f__f", "2#1_ 1", "16#1_g", "2#1_a",
		"2#2", "2#12", "2#13_", "2#1_2", "8#8", "8#78", "8#9", "8#7_8", "16#g", "16#G", "2#a", "8#f", "2#0000000002",
		"2#100000000000000000000000000000000", "8#40000000000", "16#100000000", "16#1_0000_0000", "16#FFFFFFFFFFFFFFFF", "16#10000000000000000", "16#10000000000000005",
		"2#" + strings.Repeat("1", 400), "16#" + strings.Repeat("0", 64) + "1" + strings.Repeat("0", 16),
	} {
		refused(t, s, 0, api.ErrToken)
		refused(t, "x := "+s, 5, api.ErrToken)
	}
}

// 5.1: what is no digit and no _ is no part of the number ahead of it
func TestBehindNumbers(t *testing.T) {
	has(t, "5a", number(5), word("A"))
	has(t, "5a_5", number(5), word("A_5"))
	has(t, "5 _", number(5), word("_"))
	has(t, "_5", word("_5"))
	has(t, "16#fg", number(15), word("G"))
	has(t, "16#fx5_", number(15), word("X5_"))
	has(t, "2#1a", number(1), word("A"))
	has(t, "8#7f_", number(7), word("F_"))
	has(t, "1e5", number(1), word("E5"))
	has(t, "0x1F", number(0), word("X1F"))
	has(t, "5ms", number(5), word("MS"))
	has(t, "5-5", number(5), sign("-"), number(5))
	has(t, "INT#5x", of(api.TInt, 5), word("X"))
	has(t, "INT#5-6", of(api.TInt, 5), sign("-"), number(6))
	has(t, "INT#5INT#6", of(api.TInt, 5), of(api.TInt, 6))
	has(t, "5INT#6", number(5), of(api.TInt, 6))
	has(t, "16#fT#6ms", number(15), of(api.TTime, 6))
	has(t, "T#5sx", of(api.TTime, 5000), word("X"))
	has(t, "T#5ss", of(api.TTime, 5000), word("S"))
	has(t, "T#5mss5", of(api.TTime, 5), word("S5"))
	has(t, "T#5md", of(api.TTime, 300000), word("D"))
	has(t, "T#5m s", of(api.TTime, 300000), word("S"))
	has(t, "T#5s 5ms", of(api.TTime, 5000), number(5), word("MS"))
	has(t, "T#5s-T#5s", of(api.TTime, 5000), sign("-"), of(api.TTime, 5000))
	for _, c := range []struct {
		s  string
		at int
	}{
		{"12#1", 2}, {"1#1", 1}, {"10#5", 2}, {"3#1", 1}, {"216#1", 3}, {"02#1", 2}, {"016#1", 3}, {"1_6#1", 3}, {"0#", 1}, {"5#5", 1}, {"2#1#1", 3}, {"16#2#1", 4},
		{"INT#2#1", 5}, {"INT#16#F", 6}, {"DINT#-8#7", 7}, {"BOOL#1#", 6}, {"T#5s#", 4}, {"5é", 1}, {"16#fé", 4}, {"INT#5é", 5}, {"T#5m\u017f", 4},
	} {
		refused(t, c.s, c.at, api.ErrToken)
	}
}

// cases answers s as it is, in capitals, small, and in both.
func cases(s string) []string {
	return []string{s, asciiUpper(s), asciiLower(s), asciiUpper(s[:1]) + asciiLower(s[1:]), asciiLower(s[:1]) + asciiUpper(s[1:])}
}

// 5.1
func TestTypedNumbers(t *testing.T) {
	for _, c := range []struct {
		s    string
		n    int64
		name int
	}{
		{"BOOL#0", 0, api.TBool}, {"BOOL#1", 1, api.TBool}, {"BOOL#-0", 0, api.TBool}, {"BOOL#0_1", 1, api.TBool}, {"BOOL#0001", 1, api.TBool},
		{"INT#0", 0, api.TInt}, {"INT#5", 5, api.TInt}, {"INT#-5", -5, api.TInt}, {"INT#-0", 0, api.TInt}, {"INT#1_000", 1000, api.TInt}, {"INT#-1_000", -1000, api.TInt},
		{"INT#32767", 32767, api.TInt}, {"INT#-32768", -32768, api.TInt}, {"INT#-0032_768", -32768, api.TInt},
		{"DINT#0", 0, api.TDint}, {"DINT#32768", 32768, api.TDint}, {"DINT#-32769", -32769, api.TDint},
		{"DINT#2147483647", 2147483647, api.TDint}, {"DINT#-2147483648", -2147483648, api.TDint}, {"DINT#-2_147_483_648", -2147483648, api.TDint},
	} {
		for _, s := range cases(c.s) {
			has(t, s, of(c.name, c.n))
			has(t, "("+s+")", sign("("), of(c.name, c.n), sign(")"))
		}
	}
}

// 5.1
func TestTypedNumbersThatAreNone(t *testing.T) {
	for _, of := range []string{"BOOL#", "INT#", "DINT#"} {
		for _, value := range []string{
			"", " ", " 0", "-", "- 0", "--0", "+0", "_0", "-_0", "0_", "0__0", "0_x", "-0_", "x", "TRUE", "#", "#0", "(**)0", "{}0", ";", "é", ".0", "0_0_",
			"2147483649", "-2147483649", "4294967296", "4294967297", "-4294967296", "18446744073709551616", "18446744073709551617", "-18446744073709551616", strings.Repeat("9", 300), "-" + strings.Repeat("9", 300),
		} {
			for _, s := range cases(of + value) {
				refused(t, s, 0, api.ErrToken)
				refused(t, "y - "+s, 4, api.ErrToken)
			}
		}
	}
	for _, s := range []string{
		"BOOL#2", "BOOL#-1", "BOOL#10", "BOOL#TRUE", "BOOL#false", "INT#32768", "INT#-32769", "INT#65536", "INT#65535", "INT#-65536", "INT#2147483648",
		"DINT#2147483648", "DINT#-2147483649", "DINT#4294967295", "INT#3_2768", "T#-5ms", "TIME#-5ms",
	} {
		refused(t, s, 0, api.ErrToken)
		refused(t, "a "+s, 2, api.ErrToken)
	}
}

// 5.1
func TestWordsWithASharpThatAreNoTypes(t *testing.T) {
	for _, w := range []string{"x", "_", "INTS", "UINT", "SINT", "LINT", "IN", "DIN", "_INT", "INT_", "INT1", "BOO", "BOOL1", "TIM", "TIMES", "TI", "TT", "T1", "T_", "WORD", "BYTE", "REAL", "E", "a16", "DATE", "D", "TRUE"} {
		for _, value := range []string{"", "5", "-5", "5ms", " 5", "#", "x"} {
			for _, s := range cases(w + "#" + value) {
				refused(t, s, 0, api.ErrToken)
				refused(t, "; "+s, 2, api.ErrToken)
			}
		}
		has(t, w+" ;", word(asciiUpper(w)), sign(";"))
		refused(t, w+" #5", len(w)+1, api.ErrToken)
	}
	for _, w := range []string{"BOOL", "INT", "DINT", "T", "TIME"} {
		refused(t, w+" #5", len(w)+1, api.ErrToken)
		refused(t, w+"\n#5", len(w)+1, api.ErrToken)
		has(t, w, word(w))
	}
}

// 5.1
func TestTimes(t *testing.T) {
	for _, c := range []struct {
		s string
		n int64
	}{
		{"0d", 0}, {"0ms", 0}, {"1d", 86400000}, {"1h", 3600000}, {"1m", 60000}, {"1s", 1000}, {"1ms", 1}, {"90m", 5400000}, {"1000ms", 1000}, {"007s", 7000},
		{"1d1ms", 86400001}, {"1m2s5ms", 62005}, {"1m1ms", 60001}, {"1h1s", 3601000}, {"1d2h3m4s5ms", 93784005}, {"1d1h", 90000000}, {"1h1m", 3660000}, {"1m1s", 61000}, {"1s1ms", 1001}, {"0d0h0m0s0ms", 0},
		{"2147483647ms", 2147483647}, {"0002147483647ms", 2147483647}, {"24d20h31m23s647ms", 2147483647}, {"2147483s647ms", 2147483647}, {"35791m23s647ms", 2147483647}, {"596h31m23s647ms", 2147483647},
		{"24d", 2073600000}, {"596h", 2145600000}, {"35791m", 2147460000}, {"2147483s", 2147483000}, {"0d2147483647ms", 2147483647},
	} {
		for _, name := range []string{"T#", "TIME#"} {
			for _, s := range cases(name + c.s) {
				has(t, s, of(api.TTime, c.n))
				has(t, s+"+"+s, of(api.TTime, c.n), sign("+"), of(api.TTime, c.n))
			}
		}
	}
}

// 5.1
func TestTimesThatAreNone(t *testing.T) {
	for _, value := range []string{
		"", " ", "5", "0", "d", "ms", "s", "_", "#", "-5ms", "+5ms", " 5ms", "5 ms", "x", "5x", "5us", "5.5s", "5,5s", "5_ms", "5_0ms", "_5ms", "5__0ms", "5s_", "5s_5ms", "5ms_", "5ms_x", "5d_1h", "5-5ms", "16#5ms", "2#1ms", "5#ms", "é", "5é", "5\u017f",
		"1s2m", "1ms1s", "1h1d", "1m1h", "1s1d", "1ms1d", "1ms1m", "1s1h", "1d1d", "1h1h", "1m1m", "1s1s", "1ms1ms", "1d1h1d", "1d1h1h", "1m1s1m", "1d5", "5ms5", "5s5", "5s5x", "1d1h1m1s1ms1", "5(**)ms", "5s5(**)ms",
		"2147483648ms", "2147483649ms", "4294967296ms", "4294967301ms", "18446744073709551621ms", "25d", "24d20h31m23s648ms", "24d20h31m24s", "597h", "35792m", "2147484s", "2147483s648ms", "2147483648d", "4294967296d", "213503982334601d", "106751991167300d", "2147483647ms1s", "1d2147483647ms",
		"99999999999999999999d", "99999999999999999999d99999999999999999999h99999999999999999999m99999999999999999999s99999999999999999999ms", strings.Repeat("9", 300) + "ms",
	} {
		for _, name := range []string{"T#", "TIME#"} {
			for _, s := range cases(name + value) {
				refused(t, s, 0, api.ErrToken)
				refused(t, "y := "+s, 5, api.ErrToken)
			}
		}
	}
}

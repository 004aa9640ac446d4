package lex_test

import (
	"math/rand"
	"slices"
	"strings"
	"testing"
	"unsafe"

	"capstan/api"
	"capstan/lex"
)

func word(s string) api.Token { return api.Token{Kind: api.KWord, S: s} }

func sign(s string) api.Token { return api.Token{Kind: api.KSign, S: s} }

func number(n int64) api.Token { return api.Token{Kind: api.KNum, N: n} }

func of(t int, n int64) api.Token { return api.Token{Kind: api.KNum, N: n, Type: t} }

var end = api.Token{Kind: api.KEnd}

// placeless answers l with all places 0.
func placeless(l []api.Token) []api.Token {
	r := slices.Clone(l)
	for i := range r {
		r[i].At = 0
	}
	return r
}

// has fails the test unless s has these tokens, but for their places, with the end behind them at the text's length.
func has(t *testing.T, s string, want ...api.Token) {
	t.Helper()
	l, f := lex.Tokens(s)
	if f != (api.Fault{}) || !slices.Equal(placeless(l), append(slices.Clone(want), end)) {
		t.Errorf("Tokens(%.200q) = %+v, %v, want %+v and the end", s, l, f, want)
		return
	}
	if at := l[len(l)-1].At; at != len(s) {
		t.Errorf("Tokens(%.200q): the end is at %d, want %d", s, at, len(s))
	}
}

// refused fails the test unless s is refused with that fault and nothing beside it.
func refused(t *testing.T, s string, at int, code api.Errno) {
	t.Helper()
	if l, f := lex.Tokens(s); len(l) != 0 || f != (api.Fault{At: at, Code: code}) {
		t.Errorf("Tokens(%.200q) = %+v, %v, want nothing, {%d %d}", s, l, f, at, code)
	}
}

// 5.1, the chapter's examples
func TestTokensOfTheExamples(t *testing.T) {
	s := "x:=INT#-5+16#1f; (* note *)" // 27 bytes: with one more, the end is at 28
	want := []api.Token{
		{Kind: api.KWord, S: "X", At: 0}, {Kind: api.KSign, S: ":=", At: 1}, {Kind: api.KNum, N: -5, Type: api.TInt, At: 3},
		{Kind: api.KSign, S: "+", At: 9}, {Kind: api.KNum, N: 31, At: 10}, {Kind: api.KSign, S: ";", At: 15},
		{Kind: api.KEnd, At: 27},
	}
	if l, f := lex.Tokens(s); !slices.Equal(l, want) || f != (api.Fault{}) {
		t.Errorf("Tokens(%q) = %+v, %v, want %+v", s, l, f, want)
	}
	s += " "
	if l, f := lex.Tokens(s); f != (api.Fault{}) || l[6] != (api.Token{Kind: api.KEnd, At: 28}) {
		t.Errorf("Tokens(%q) = %+v, %v, want the end at 28", s, l, f)
	}
	has(t, "T#1m2s5ms", of(api.TTime, 62005))
}

// 5.1
func TestUpper(t *testing.T) {
	for _, c := range []struct{ s, want string }{
		{"", ""}, {"abc", "ABC"}, {"azAZ_09", "AZAZ_09"}, {"`{@[", "`{@["}, {"aé\xffz", "Aé\xffZ"},
		{"ıſkß\u212a", "ıſKß\u212a"}, {"a\x00\x80b", "A\x00\x80B"},
	} {
		if got := lex.Upper(c.s); got != c.want {
			t.Errorf("Upper(%q) = %q, want %q", c.s, got, c.want)
		}
	}
	for c := range 256 {
		s := string([]byte{byte(c)})
		if got := lex.Upper(s + s); got != asciiUpper(s+s) {
			t.Errorf("Upper(%q) = %q", s+s, got)
		}
	}
	long := strings.Repeat("aB_é", 1<<16)
	if got := lex.Upper(long); got != asciiUpper(long) {
		t.Errorf("Upper of %d bytes is another text", len(long))
	}
}

// 5.1
func TestTokensOfNothing(t *testing.T) {
	for _, s := range []string{"", " ", "\t\r\n ", "(**)", "(***)", "//", "// x", "//\n", "{}", "{(*}", "(*{*)", "(*//*)//(*{", "{//}", " (*\n*) {\r}\t// \xff\n"} {
		has(t, s)
	}
}

// 5.1
func TestEachByteAlone(t *testing.T) {
	for c := range 256 {
		s := string([]byte{byte(c)})
		switch {
		case strings.Contains(" \t\n\r", s):
			has(t, s)
		case c >= '0' && c <= '9':
			has(t, s, number(int64(c-'0')))
		case c >= 'A' && c <= 'Z' || c >= 'a' && c <= 'z' || c == '_':
			has(t, s, word(asciiUpper(s)))
		case strings.Contains("()[],;:.+-*/=<>&", s):
			has(t, s, sign(s))
		default:
			refused(t, s, 0, api.ErrToken)
			refused(t, "ab "+s, 3, api.ErrToken)
			refused(t, "12"+s, 2, api.ErrToken)
			refused(t, ":="+s+" x", 2, api.ErrToken)
			if c != '#' {
				refused(t, "ab"+s, 2, api.ErrToken)
			}
		}
	}
}

// 5.1
func TestWords(t *testing.T) {
	for _, s := range []string{"a", "Z", "_", "__", "_5", "_5_", "a1", "a_1_", "TRUE", "False", "int", "bool", "Dint", "t", "TIME", "T5ms", "x16", "if", "abcdefghijklm_opqrstuvwxyz"[:24]} {
		has(t, s, word(asciiUpper(s)))
	}
	has(t, "a b\tc\nd\re", word("A"), word("B"), word("C"), word("D"), word("E"))
	has(t, "a(**)b{}c//\nd", word("A"), word("B"), word("C"), word("D"))
	has(t, "x.y[i]", word("X"), sign("."), word("Y"), sign("["), word("I"), sign("]"))
	refused(t, "aé", 1, api.ErrToken)
	refused(t, "a\x80", 1, api.ErrToken)
	refused(t, "ıNT#5", 0, api.ErrToken)
}

// 5.1
func TestWordsOfMaxName(t *testing.T) {
	for _, c := range []string{"a", "Z", "_", "a1", "_9"} {
		just := strings.Repeat(c, 24)[:api.MaxName]
		has(t, just, word(asciiUpper(just)))
		has(t, " "+just+";", word(asciiUpper(just)), sign(";"))
		has(t, just+" "+just, word(asciiUpper(just)), word(asciiUpper(just)))
		for _, more := range []string{"a", "_", "0"} {
			refused(t, just+more, 0, api.ErrToken)
			refused(t, "x := "+just+more+"; $", 5, api.ErrToken)
			refused(t, just+more+"#5", 0, api.ErrToken)
		}
		refused(t, just+"#5", 0, api.ErrToken)
		refused(t, strings.Repeat(c, 30000), 0, api.ErrToken)
	}
}

// 5.1
func TestSigns(t *testing.T) {
	all := strings.Fields(":= <= >= <> ** .. ( ) [ ] , ; : . + - * / = < > &")
	for _, a := range all {
		has(t, a, sign(a))
		has(t, "x"+a, word("X"), sign(a))
		has(t, a+"x", sign(a), word("X"))
		has(t, a+"5", sign(a), number(5))
		has(t, "5"+a, number(5), sign(a))
		for _, b := range all {
			has(t, a+" "+b, sign(a), sign(b))
		}
	}
}

// 5.1: the longest sign that fits
func TestLongestSigns(t *testing.T) {
	for _, c := range []struct {
		s    string
		want string
	}{
		{":==", ":= ="}, {"::=", ": :="}, {"=:=", "= :="}, {"<=>", "<= >"}, {"<>=", "<> ="}, {"<<=", "< <="}, {">>=", "> >="},
		{">=<", ">= <"}, {"><", "> <"}, {"=>", "= >"}, {"=<", "= <"}, {"==", "= ="}, {"***", "** *"}, {"****", "** **"},
		{"...", ".. ."}, {"....", ".. .."}, {".:=", ". :="}, {"*/", "* /"}, {"*)", "* )"}, {"/*", "/ *"}, {"&&", "& &"},
		{"<-", "< -"}, {":-=", ": - ="}, {"()*", "( ) *"}, {"--", "- -"}, {"( *", "( *"}, {"/ /", "/ /"}, {"**)", "** )"},
	} {
		var want []api.Token
		for _, g := range strings.Fields(c.want) {
			want = append(want, sign(g))
		}
		has(t, c.s, want...)
	}
	has(t, "1..5", number(1), sign(".."), number(5))
	has(t, "1.5", number(1), sign("."), number(5))
	has(t, "a:=-b", word("A"), sign(":="), sign("-"), word("B"))
}

// 5.1
func TestNotesAndPragmas(t *testing.T) {
	a, b := word("A"), word("B")
	for _, gap := range []string{
		" ", "\t", "\n", "\r", "(**)", "(* *)", "(***)", "(****)", "(* ** *)", "(*)*)", "(*(*)", "(* (* *)", "(*\n*)", "(*{*)", "(*}*)", "(*//*)", "(*\xff\x00é*)",
		"{}", "{ }", "{{}", "{(*}", "{*)}", "{//}", "{\n}", "{$#}", "//\n", "// x (* { \n", "//}\n", "///\n", "//\r\n", "//*)\n", " (* *) { } // \n\t",
	} {
		has(t, "a"+gap+"b", a, b)
		has(t, gap+"a"+gap+gap+"b"+gap, a, b)
	}
	has(t, "a//b", a)
	has(t, "a//b\rb", a)
	has(t, "a // b (* c", a)
	has(t, "a(* b *)", a)
	has(t, "a{b}", a)
	has(t, "(* a (* b *) *)", sign("*"), sign(")"))
	has(t, "(**)*)", sign("*"), sign(")"))
	has(t, "a/(* *)/b", a, sign("/"), sign("/"), b)
	has(t, "a:{}=b", a, sign(":"), sign("="), b)
	has(t, "5(**)6", number(5), number(6))
	has(t, "5{}_6", number(5), word("_6"))
	has(t, "int(**)", word("INT"))
	refused(t, "int{}#5", 5, api.ErrToken)
	refused(t, "int #5", 4, api.ErrToken)
	refused(t, "{{}}", 3, api.ErrToken)
	refused(t, "// \n}", 4, api.ErrToken)
}

// 5.1
func TestNotesWithoutAnEnd(t *testing.T) {
	for _, open := range []string{"(*", "(*)", "(* ", "(* *", "(* * )", "(*(*", "{", "{ ", "{{", "{(**)", "(*//\n", "(*}", "{*)", "{//\n", "(*\xff"} {
		refused(t, open, 0, api.ErrToken)
		refused(t, "a"+open, 1, api.ErrToken)
		refused(t, "a := 5"+open, 6, api.ErrToken)
		refused(t, " (* *) { }"+open, 10, api.ErrToken)
		refused(t, "a // b\n"+open, 7, api.ErrToken)
	}
}

// 5.1
func TestTextsOfMaxBytes(t *testing.T) {
	blanks := strings.Repeat(" ", api.MaxBytes)
	has(t, blanks)
	has(t, blanks[1:]+"x", word("X"))
	has(t, "x"+blanks[1:], word("X"))
	has(t, strings.Repeat("0", api.MaxBytes-1)+"7", number(7))
	has(t, "T#"+strings.Repeat("0", api.MaxBytes-5)+"7ms", of(api.TTime, 7))
	has(t, "(*"+blanks[4:]+"*)")
	refused(t, blanks[1:]+"$", api.MaxBytes-1, api.ErrToken)
	refused(t, strings.Repeat("9", api.MaxBytes), 0, api.ErrToken)
	refused(t, strings.Repeat("a", api.MaxBytes), 0, api.ErrToken)
	for _, s := range []string{blanks + " ", blanks + "x", "$" + blanks, "(*" + blanks, strings.Repeat("x ", api.MaxBytes), strings.Repeat("9", 1<<20), strings.Repeat("\xff", api.MaxBytes+1)} {
		refused(t, s, 0, api.ErrLong)
	}
}

// 5.1
func TestMaxTokens(t *testing.T) {
	for _, piece := range []string{"x ", ";", "5,"} {
		each := 1 + strings.Count(piece, ",")
		full := strings.Repeat(piece, api.MaxTokens/each-1) + strings.Repeat(";", each-1) // with the end, there are just so many
		l, f := lex.Tokens(full)
		if f != (api.Fault{}) || len(l) != api.MaxTokens || l[api.MaxTokens-1] != (api.Token{Kind: api.KEnd, At: len(full)}) {
			t.Errorf("%q: %d tokens, %v, want %d", piece, len(l), f, api.MaxTokens)
		}
		if _, f := lex.Tokens(full + " (* *) {} // "); f != (api.Fault{}) {
			t.Errorf("%q and a note: %v", piece, f)
		}
		refused(t, full+"$", len(full), api.ErrToken)
		refused(t, full+"(*", len(full), api.ErrToken)

		over := full + "."
		for _, next := range []string{"", ";", "x", "5", "$", "\xff", "5_", "x#", "INT#99999", "T#5", "}", "#", strings.Repeat("a", 25)} {
			refused(t, over+" "+next, len(over)+1, api.ErrLong)
			refused(t, over+"(* *) {}\n"+next, len(over)+9, api.ErrLong)
		}
		refused(t, over, len(over), api.ErrLong)
		refused(t, over+"//", len(over)+2, api.ErrLong)
		refused(t, over+" (*", len(over)+1, api.ErrToken)
		refused(t, over+"{", len(over), api.ErrToken)
		refused(t, over+"{}(*)", len(over)+2, api.ErrToken)
		refused(t, over+"{};(*", len(over)+2, api.ErrLong)
	}
}

// 5.1: of several faults the first from the left
func TestFirstFault(t *testing.T) {
	refused(t, "$ (*", 0, api.ErrToken)
	refused(t, "5_ $", 0, api.ErrToken)
	refused(t, "a 5_ $ (*", 2, api.ErrToken)
	refused(t, "a (* $", 2, api.ErrToken)
	refused(t, "a#5_ b", 0, api.ErrToken)
	refused(t, "(* *) a# $", 6, api.ErrToken)
	refused(t, "INT#32768 $", 0, api.ErrToken)
	refused(t, "INT#5#", 5, api.ErrToken)
	refused(t, "T#1s#", 4, api.ErrToken)
}

// 5.1, R4: no part of an answer is a piece of the text.
func TestAnswersAreNewMemory(t *testing.T) {
	s := strings.Clone("AB := CD ** X5 ; E .. F <> DINT#5 <= T#5MS")
	from := uintptr(unsafe.Pointer(unsafe.StringData(s)))
	within := func(p string) bool {
		at := uintptr(unsafe.Pointer(unsafe.StringData(p)))
		return at >= from && at < from+uintptr(len(s))
	}
	l, _ := lex.Tokens(s)
	for _, k := range l {
		if k.S != "" && within(k.S) {
			t.Errorf("%q is a piece of the text", k.S)
		}
	}
	if u := lex.Upper(s); u != s || within(u) {
		t.Errorf("Upper(%q) = %q is the text itself", s, u)
	}
}

// R4, R7
func TestTokensTwice(t *testing.T) {
	s := "if a <= INT#5 then b := T#5s; end_if"
	first, f := lex.Tokens(s)
	kept := slices.Clone(first)
	second, g := lex.Tokens(s)
	if f != g || !slices.Equal(first, second) {
		t.Fatalf("%v, %v and then %v, %v", first, f, second, g)
	}
	room := second[:cap(second)]
	for i := range room {
		room[i] = api.Token{Kind: 9}
	}
	if !slices.Equal(first, kept) {
		t.Error("two answers share memory")
	}
	if third, _ := lex.Tokens(s); !slices.Equal(third, kept) {
		t.Error("an answer that was changed changes the next one")
	}
}

// sameAsReference fails the test unless the scanner says of s what the chapter's words as regular expressions say.
func sameAsReference(t *testing.T, s string) {
	t.Helper()
	l, f := lex.Tokens(s)
	want, fault := refTokens(s)
	if f != fault || !slices.Equal(l, want) {
		t.Fatalf("Tokens(%q) = %+v, %v, want %+v, %v", s, l, f, want, fault)
	}
}

// 5.1, P1: all texts of up to so many bytes of a few
func TestShortTexts(t *testing.T) {
	for _, c := range []struct {
		bytes  string
		length int
	}{{"12#_a ", 6}, {"T#15dmsM_", 5}, {"T#15dhmsSx", 4}, {"(*){}/\n x", 5}, {":=<>*.&", 4}, {"int#-3_B", 5}, {"1678#_fFgG", 4}, {"2#01_8", 6}} {
		texts := []string{""}
		for range c.length {
			var longer []string
			for _, s := range texts {
				for i := range len(c.bytes) {
					longer = append(longer, s+c.bytes[i:i+1])
				}
			}
			for _, s := range longer {
				sameAsReference(t, s)
			}
			texts = longer
		}
	}
}

// pieces are what random texts are made of.
var pieces = []string{
	"a", "Z", "_", "x1", "if", "TRUE", "int", "INT#", "bool#", "DINT#", "t#", "Time#", "T#", "y#", "0", "1", "5", "9", "32767", "32768", "65535",
	"2147483647", "2147483648", "2147483649", "4294967295", "4294967296", "2#", "8#", "16#", "FFFFFFFF", "ffff_ffff", "100000000", "37777777777", "40000000000",
	"1010_1010", "_0", "d", "h", "m", "s", "ms", "D", "H", "M", "S", "MS", "5d", "3h", "7m", "8s", "9ms", "24d", "20h31m23s", "647ms", "648ms", "-", "-1", "-32768", "-32769",
	":", "=", ":=", "<", ">", "*", "**", ".", "..", "(", ")", "[", "]", ",", ";", "+", "/", "&", " ", " ", "\t", "\n", "\r", "(*", "*)", "{", "}", "//",
	"(* n *)", "{p}", "// n\n", "#", "$", "\x00", "\x80", "\xff", "é", "\u017f", "\u0131", "\u00a0", "\v", "\f", "abcdefghijklmnopqrstuvwx", "99999999999999999999",
}

func randomText(r *rand.Rand, most int) string {
	var b strings.Builder
	for range r.Intn(most + 1) {
		b.WriteString(pieces[r.Intn(len(pieces))])
	}
	return b.String()
}

// 5.1, P1
func TestRandomTexts(t *testing.T) {
	r := rand.New(rand.NewSource(5))
	for range 60000 {
		sameAsReference(t, randomText(r, 7))
	}
	for range 20000 {
		b := make([]byte, r.Intn(12))
		for i := range b {
			b[i] = byte(r.Intn(256))
		}
		sameAsReference(t, string(b))
	}
}

// goodText answers a text without a fault: tokens that are each one, with or without a gap between two.
func goodText(r *rand.Rand) string {
	s := ""
	for range r.Intn(12) {
		longer := s + pieces[r.Intn(len(pieces))]
		if _, f := refTokens(longer); f == (api.Fault{}) {
			s = longer
		}
	}
	return s
}

// 5.3: capitals or not
func TestCapitalsChangeNothing(t *testing.T) {
	r := rand.New(rand.NewSource(53))
	texts := []string{"if a1 then T#1d2h3m4s5ms int#5 bool#1 dint#-5 time#5ms 16#aBcD end_if", "t#5M5Ms // é\n tRuE"}
	for range 20000 {
		texts = append(texts, randomText(r, 6), goodText(r))
	}
	for _, s := range texts {
		l, f := lex.Tokens(s)
		for _, other := range []string{lex.Upper(s), asciiLower(s)} {
			if m, g := lex.Tokens(other); g != f || !slices.Equal(l, m) {
				t.Fatalf("Tokens(%q) = %+v, %v, Tokens(%q) = %+v, %v", s, l, f, other, m, g)
			}
		}
	}
}

// 5.3: notes, pragmas, blanks
func TestGapsChangeNothing(t *testing.T) {
	r := rand.New(rand.NewSource(35))
	gaps := []string{" ", "\t", "\r\n", "(**)", "(* a := 5; *)", "{p}", " // b\n", " (*(*) {{} "} // a blank ahead of //, lest a / stand right there
	for range 20000 {
		s := goodText(r)
		l, f := lex.Tokens(s)
		if f != (api.Fault{}) {
			t.Fatalf("Tokens(%q): %v", s, f)
		}
		var b strings.Builder
		at, places := 0, []int{}
		for _, k := range l {
			b.WriteString(s[at:k.At])
			b.WriteString(gaps[r.Intn(len(gaps))])
			places = append(places, b.Len())
			at = k.At
		}
		m, f := lex.Tokens(b.String())
		if f != (api.Fault{}) || !slices.Equal(placeless(l), placeless(m)) {
			t.Fatalf("Tokens(%q) = %+v, Tokens(%q) = %+v, %v", s, l, b.String(), m, f)
		}
		for i, k := range m {
			if k.At != places[i] {
				t.Fatalf("Tokens(%q): token %d at %d, want %d", b.String(), i, k.At, places[i])
			}
		}
	}
}

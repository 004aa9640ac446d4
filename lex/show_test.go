package lex_test

import (
	"math"
	"math/rand"
	"slices"
	"strings"
	"testing"
	"unsafe"

	"capstan/api"
	"capstan/lex"
)

// shows fails the test unless the tokens, with the end behind them, are shown so, and read again of what is shown.
func shows(t *testing.T, want string, l ...api.Token) {
	t.Helper()
	l = append(slices.Clone(l), end)
	s, e := lex.Show(l)
	if s != want || e != api.OK {
		t.Errorf("Show(%+v) = %q, %d, want %q", l, s, e, want)
		return
	}
	if m, f := lex.Tokens(s); f != (api.Fault{}) || !slices.Equal(placeless(m), placeless(l)) {
		t.Errorf("Show(%+v) = %q, of which are read %+v, %v", l, s, m, f)
	}
}

// notShown fails the test unless the tokens are refused with that error and nothing beside it.
func notShown(t *testing.T, code api.Errno, l ...api.Token) {
	t.Helper()
	if s, e := lex.Show(l); s != "" || e != code {
		t.Errorf("Show(%+v) = %.100q, %d, want nothing, %d", l, s, e, code)
	}
}

// 5.2
func TestShow(t *testing.T) {
	shows(t, "")
	shows(t, "X", word("X"))
	shows(t, "X := 5 ;", word("X"), sign(":="), number(5), sign(";"))
	shows(t, "INT#5 DINT#-5 BOOL#1 T#5ms", of(api.TInt, 5), of(api.TDint, -5), of(api.TBool, 1), of(api.TTime, 5))
	shows(t, "IF A THEN B", word("IF"), word("A"), word("THEN"), word("B"))
	shows(t, "_ _1 TRUE INT T", word("_"), word("_1"), word("TRUE"), word("INT"), word("T"))
	shows(t, "( * * ) / / : = . . < > * *", sign("("), sign("*"), sign("*"), sign(")"), sign("/"), sign("/"), sign(":"), sign("="), sign("."), sign("."), sign("<"), sign(">"), sign("*"), sign("*"))
	shows(t, "5 5 X 5 _", number(5), number(5), word("X"), number(5), word("_"))
	shows(t, "T#1000ms T#0ms", of(api.TTime, 1000), of(api.TTime, 0))
	for _, g := range strings.Fields(":= <= >= <> ** .. ( ) [ ] , ; : . + - * / = < > &") {
		shows(t, g, sign(g))
		shows(t, g+" "+g, sign(g), sign(g))
	}
	just := "A" + strings.Repeat("_9", 12)[:api.MaxName-1]
	shows(t, just, word(just))
}

// 5.2
func TestShowNumbers(t *testing.T) {
	for _, c := range []struct {
		want string
		t    int
		n    int64
	}{
		{"0", 0, 0}, {"1", 0, 1}, {"2147483647", 0, 2147483647}, {"2147483648", 0, 2147483648}, {"16#FFFFFFFF", 0, -1}, {"16#FFFFFFF6", 0, -10}, {"16#80000000", 0, -2147483648}, {"16#80000001", 0, -2147483647}, {"16#ABCDEF09", 0, 0xabcdef09 - 1<<32},
		{"BOOL#0", api.TBool, 0}, {"BOOL#1", api.TBool, 1}, {"INT#0", api.TInt, 0}, {"INT#32767", api.TInt, 32767}, {"INT#-32768", api.TInt, -32768}, {"INT#-1", api.TInt, -1},
		{"DINT#0", api.TDint, 0}, {"DINT#2147483647", api.TDint, 2147483647}, {"DINT#-2147483648", api.TDint, -2147483648}, {"T#0ms", api.TTime, 0}, {"T#1ms", api.TTime, 1}, {"T#2147483647ms", api.TTime, 2147483647},
	} {
		shows(t, c.want, of(c.t, c.n))
		shows(t, "( "+c.want+" )", sign("("), of(c.t, c.n), sign(")"))
	}
}

// wrong answers tokens that come from no text.
func wrong() []api.Token {
	l := []api.Token{{}, {S: "X"}, {N: 5}, {S: ";"}}
	for _, k := range []int{0, 5, 6, -1, math.MaxInt, math.MinInt, 1<<32 + 1, 256 + 1} {
		l = append(l, api.Token{Kind: k}, api.Token{Kind: k, S: "X"}, api.Token{Kind: k, N: 5}, api.Token{Kind: k, S: ";"})
	}
	for _, s := range []string{"", "x", "aB", "Ab", "5", "5A", "A B", "A ", " A", "A#", "#", "INT#", "INT#5", "T#5ms", ";", "A;", "É", "A\xff", "\x00", "(**)", "A(**)", "//", "A//", "{}", "A-B", "A.B", "$", strings.Repeat("A", api.MaxName+1), strings.Repeat("A", 1<<17)} {
		l = append(l, word(s))
	}
	l = append(l, api.Token{Kind: api.KWord, S: "X", N: 1}, api.Token{Kind: api.KWord, S: "X", N: -1}, api.Token{Kind: api.KWord, S: "X", Type: api.TInt}, api.Token{Kind: api.KWord, S: "X", Type: -1})
	for _, s := range []string{"", " ", "==", "=>", "=<", ":==", "(*", "(**)", "*)", "//", "// x", "{", "}", "{}", "; ", " ;", ";;", "#", "$", "X", "5", "...", "***", "!", "\xff", "é", "|", "^", "%"} {
		l = append(l, sign(s))
	}
	l = append(l, api.Token{Kind: api.KSign, S: ";", N: 1}, api.Token{Kind: api.KSign, S: ";", Type: api.TInt})
	for _, n := range []int64{2147483649, -2147483649, 1 << 32, -1 << 32, -1<<32 + 5, -1<<32 - 1, 1<<32 + 5, math.MaxInt64, math.MinInt64, math.MinInt64 + 5} {
		l = append(l, number(n))
	}
	l = append(l, api.Token{Kind: api.KNum, S: "5", N: 5}, api.Token{Kind: api.KNum, S: "X"}, api.Token{Kind: api.KNum, S: "5"}, api.Token{Kind: api.KNum, S: "INT", N: 5, Type: api.TInt})
	for _, c := range []struct {
		t int
		l []int64
	}{
		{api.TBool, []int64{2, -1, 256, 1 << 32, 1<<32 + 1, math.MinInt64, math.MaxInt64}},
		{api.TInt, []int64{32768, -32769, 65536, 1 << 32, math.MinInt64, math.MaxInt64}},
		{api.TDint, []int64{2147483648, -2147483649, 1 << 32, math.MinInt64, math.MaxInt64}},
		{api.TTime, []int64{-1, -5, -2147483648, 2147483648, 1 << 32, math.MinInt64, math.MaxInt64}},
		{5, []int64{0, 1, 5, -1}}, {-1, []int64{0, 1, 5, -1}}, {100, []int64{0, 1}}, {1<<32 + 2, []int64{0, 5}}, {math.MinInt, []int64{0}}, {math.MaxInt, []int64{0}},
	} {
		for _, n := range c.l {
			l = append(l, of(c.t, n))
		}
	}
	return l
}

// 5.2
func TestShowTokensThatComeFromNoText(t *testing.T) {
	for _, k := range wrong() {
		notShown(t, api.ErrToken, k, end)
		notShown(t, api.ErrToken, word("X"), k, end)
		notShown(t, api.ErrToken, k, word("X"), end)
		notShown(t, api.ErrToken, word("X"), k)
		notShown(t, api.ErrToken, k)
	}
	for _, k := range []api.Token{{Kind: api.KEnd, S: "X"}, {Kind: api.KEnd, S: " "}, {Kind: api.KEnd, N: 1}, {Kind: api.KEnd, Type: api.TInt}, {Kind: api.KEnd, S: "5", N: 5}} {
		notShown(t, api.ErrToken, k)
		notShown(t, api.ErrToken, word("X"), k)
		notShown(t, api.ErrToken, k, end)
	}
}

// 5.2
func TestShowWhereTheEndIs(t *testing.T) {
	notShown(t, api.ErrToken)
	if s, e := lex.Show([]api.Token{}); s != "" || e != api.ErrToken {
		t.Errorf("Show of an empty list = %q, %d", s, e)
	}
	for _, k := range []api.Token{word("X"), number(5), of(api.TInt, 5), sign(";")} {
		notShown(t, api.ErrToken, k)
		notShown(t, api.ErrToken, k, k)
		notShown(t, api.ErrToken, end, k)
		notShown(t, api.ErrToken, k, end, k)
		notShown(t, api.ErrToken, k, end, k, end)
		notShown(t, api.ErrToken, end, k, end)
	}
	notShown(t, api.ErrToken, end, end)
	notShown(t, api.ErrToken, word("X"), end, end)
}

// 5.2: places mean nothing, not even those of no text
func TestShowWhateverThePlaces(t *testing.T) {
	for _, at := range []int{0, 1, 7, -1, 1 << 16, math.MaxInt, math.MinInt} {
		l := []api.Token{word("X"), sign(":="), number(-5), of(api.TTime, 5), of(api.TInt, 5), end}
		for i := range l {
			l[i].At = at
		}
		if s, e := lex.Show(l); s != "X := 16#FFFFFFFB T#5ms INT#5" || e != api.OK {
			t.Errorf("places %d: %q, %d", at, s, e)
		}
	}
}

// 5.2: a text of just api.MaxBytes, and of one more
func TestShowLongTexts(t *testing.T) {
	long := word(strings.Repeat("A", api.MaxName))
	var l []api.Token
	for range api.MaxBytes/(api.MaxName+1) - 1 {
		l = append(l, long)
	}
	left := api.MaxBytes - len(l)*(api.MaxName+1) // for the last ones
	for left > api.MaxName {
		l = append(l, word("BCDEFGHIJ"))
		left -= 10
	}
	just := append(slices.Clone(l), word(strings.Repeat("Z", left)), end)
	s, e := lex.Show(just)
	if len(s) != api.MaxBytes || e != api.OK {
		t.Fatalf("%d bytes, %d, want %d, 0", len(s), e, api.MaxBytes)
	}
	if m, f := lex.Tokens(s); f != (api.Fault{}) || !slices.Equal(placeless(m), just) {
		t.Fatalf("read again: %d tokens, %v", len(m), f)
	}
	notShown(t, api.ErrLong, append(slices.Clone(l), word(strings.Repeat("Z", left+1)), end)...)
	notShown(t, api.ErrLong, append(slices.Clone(l), word(strings.Repeat("Z", left-1)), sign(";"), end)...)
	notShown(t, api.ErrLong, append(slices.Clone(just[:len(just)-1]), sign(";"), end)...)
	notShown(t, api.ErrLong, append(slices.Repeat([]api.Token{long}, 1<<16), end)...)
	// What is no token comes ahead of what is too long, wherever it stands.
	notShown(t, api.ErrToken, append(slices.Clone(just[:len(just)-1]), sign(";"), word("x"), end)...)
	notShown(t, api.ErrToken, append(slices.Clone(just[:len(just)-1]), sign(";"))...)
	notShown(t, api.ErrToken, append(slices.Clone(just), sign(";"), end)...)
}

// 5.2: that too many tokens would be read of what is shown is no reason to refuse them.
func TestShowManyTokens(t *testing.T) {
	for _, n := range []int{api.MaxTokens - 1, api.MaxTokens, api.MaxTokens + 5} {
		l := append(slices.Repeat([]api.Token{sign(";")}, n), end)
		if s, e := lex.Show(l); s != strings.Repeat("; ", n)[:2*n-1] || e != api.OK {
			t.Errorf("%d tokens: %d bytes, %d", n, len(s), e)
		}
	}
}

// R4, R7
func TestShowChangesNothing(t *testing.T) {
	room := []api.Token{word("X"), sign(":="), of(api.TInt, -5), end, word("SPARE"), {Kind: 9, S: "x"}}
	kept := slices.Clone(room)
	for range 2 {
		if s, e := lex.Show(room[:4]); s != "X := INT#-5" || e != api.OK {
			t.Errorf("%q, %d", s, e)
		}
		notShown(t, api.ErrToken, room[:3]...)
	}
	if !slices.Equal(room, kept) {
		t.Errorf("the tokens are changed: %+v", room)
	}
	name := strings.Clone("NAME")
	if s, _ := lex.Show([]api.Token{word(name), end}); s != name || unsafe.StringData(s) == unsafe.StringData(name) {
		t.Errorf("the text %q is the word itself", s)
	}
}

// 5.3
func TestShownTextsAreReadAgain(t *testing.T) {
	r := rand.New(rand.NewSource(52))
	for range 30000 {
		s := goodText(r)
		l, f := lex.Tokens(s)
		if f != (api.Fault{}) {
			t.Fatalf("Tokens(%q): %v", s, f)
		}
		shown, e := lex.Show(l)
		if e != api.OK {
			t.Fatalf("Show(Tokens(%q)) = %q, %d", s, shown, e)
		}
		m, f := lex.Tokens(shown)
		if f != (api.Fault{}) || !slices.Equal(placeless(l), placeless(m)) {
			t.Fatalf("Tokens(%q) = %+v, shown %q, read again %+v, %v", s, l, shown, m, f)
		}
		if again, e := lex.Show(m); again != shown || e != api.OK {
			t.Fatalf("shown %q, and again %q, %d", shown, again, e)
		}
	}
}

// 5.2, 5.3, P1: tokens at random, most of them from no text
func TestRandomTokens(t *testing.T) {
	r := rand.New(rand.NewSource(25))
	texts := append([]string{"", "", "X", "A1", "x"}, pieces...)
	numbers := []int64{0, 0, 1, -1, 5, 32767, 32768, -32768, -32769, 2147483647, 2147483648, 2147483649, -2147483648, -2147483649, 1 << 32, math.MaxInt64, math.MinInt64}
	good := 0
	for range 200000 {
		k := api.Token{Kind: r.Intn(7) - 1, S: texts[r.Intn(len(texts))], N: numbers[r.Intn(len(numbers))], Type: r.Intn(7) - 1, At: r.Intn(3)}
		switch r.Intn(3) {
		case 0:
			k.S = ""
		case 1:
			k.N, k.Type = 0, 0
		}
		s, e := lex.Show([]api.Token{k, end})
		if e == api.OK {
			good++
			m, f := lex.Tokens(s)
			if f != (api.Fault{}) || !slices.Equal(placeless(m), placeless([]api.Token{k, end})) {
				t.Fatalf("Show of %+v = %q, of which are read %+v, %v", k, s, m, f)
			}
		} else if s != "" || e != api.ErrToken {
			t.Fatalf("Show of %+v = %q, %d", k, s, e)
		}
	}
	if good == 0 {
		t.Error("no token at random was good")
	}
}

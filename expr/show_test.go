package expr_test

import (
	"math/rand"
	"slices"
	"testing"

	"capstan/api"
	"capstan/expr"
	"capstan/lex"
)

// shows fails the test unless the parts x are shown as the tokens want, and those are read as x.
func shows(t *testing.T, x []api.Part, want ...api.Token) {
	t.Helper()
	l, e := expr.Tokens(x)
	if e != api.OK || !slices.Equal(l, want) {
		t.Errorf("Tokens(%s) = %v, %d, want %v", behind(x), l, e, want)
	}
	readsOf(t, l, 0, x, len(l))
}

// 6.2, 6.3: each kind of part
func TestTokensOfEachKind(t *testing.T) {
	a := variable("A")
	shows(t, parts(num(5)), number(5))
	shows(t, parts(num(0)), number(0))
	shows(t, parts(num(-5)), number(-5))
	shows(t, parts(num(-2147483648)), number(-2147483648))
	shows(t, parts(num(2147483648)), number(2147483648))
	shows(t, parts(of(api.TBool, 1)), word("TRUE"))
	shows(t, parts(of(api.TBool, 0)), word("FALSE"))
	for _, y := range []int{api.TInt, api.TDint, api.TTime} {
		for _, n := range []int64{-32768, -1, 0, 1, 32767} {
			shows(t, parts(of(y, n)), numberOf(y, n))
		}
	}
	shows(t, parts(of(api.TTime, -2147483648)), numberOf(api.TTime, -2147483648))
	shows(t, parts(a), word("A"))
	shows(t, parts(num(1), index("B")), word("B"), sign("["), number(1), sign("]"))
	shows(t, parts(field("T", "Q")), word("T"), sign("."), word("Q"))
	shows(t, parts(field("T", "NOT")), word("T"), sign("."), word("NOT"))
	for y, s := range map[int]string{api.TInt: "TO_INT", api.TDint: "TO_DINT", api.TTime: "TO_TIME"} {
		shows(t, parts(a, to(y)), word(s), sign("("), word("A"), sign(")"))
	}
	shows(t, parts(a, op(api.NNot)), word("NOT"), word("A"))
	shows(t, parts(a, op(api.NNeg)), sign("-"), word("A"))
	for n := int64(api.NAdd); n <= api.NGe; n++ {
		s := sign(signs[n])
		if n >= api.NMod && n <= api.NXor {
			s = word(signs[n])
		}
		shows(t, parts(a, num(2), op(n)), word("A"), s, number(2))
	}
}

// 6.2, 6.3: operations are within brackets, but the outermost
func TestTokensOfOperations(t *testing.T) {
	for _, c := range [][2]string{
		{"a + b * 2 < 7", "( A + ( B * 2 ) ) < 7"}, {"NOT A[I + 1] AND T.Q", "( NOT A [ I + 1 ] ) AND T . Q"}, {"a & b & c", "( A AND B ) AND C"}, {"((a))", "A"}, {"(a + b)", "A + B"},
		{"a - b - c", "( A - B ) - C"}, {"a - (b - c)", "A - ( B - C )"}, {"not not a", "NOT ( NOT A )"}, {"- - 5", "- ( - 5 )"}, {"-(a + b)", "- ( A + B )"}, {"-a + -b", "( - A ) + ( - B )"},
		{"a[-1]", "A [ - 1 ]"}, {"a[b + c * 2]", "A [ B + ( C * 2 ) ]"}, {"a[b[c]]", "A [ B [ C ] ]"}, {"a[(b)]", "A [ B ]"}, {"a[to_int(t.et)] + 1", "A [ TO_INT ( T . ET ) ] + 1"},
		{"to_int(a + b)", "TO_INT ( A + B )"}, {"to_int(-a)", "TO_INT ( - A )"}, {"to_int((a + b) * c)", "TO_INT ( ( A + B ) * C )"}, {"to_int(to_time(a))", "TO_INT ( TO_TIME ( A ) )"}, {"not to_int(a)", "NOT TO_INT ( A )"},
		{"-a[1]", "- A [ 1 ]"}, {"not t.q", "NOT T . Q"}, {"a[1] + a[2]", "A [ 1 ] + A [ 2 ]"}, {"to_int(a) = to_int(b)", "TO_INT ( A ) = TO_INT ( B )"}, {"a or b xor c", "A OR ( B XOR C )"},
		{"true & false", "TRUE AND FALSE"}, {"bool#1 or bool#0", "TRUE OR FALSE"}, {"a = int#-5", "A = INT#-5"}, {"t.et >= t#5s", "T . ET >= T#5000ms"}, {"16#ffffffff + 1", "16#FFFFFFFF + 1"},
	} {
		x, _, f := expr.Parse(tokens(c[0]), 0)
		l, e := expr.Tokens(x)
		if s, _ := lex.Show(append(slices.Clone(l), api.Token{Kind: api.KEnd})); s != c[1] || e != api.OK || f != none {
			t.Errorf("%q is shown as %q, %d, %v, want %q", c[0], s, e, f, c[1])
		}
		readsOf(t, l, 0, x, len(l))
	}
}

// 6.2, 6.3
func TestTokensOfRandomParts(t *testing.T) {
	r := rand.New(rand.NewSource(63))
	good := 0
	for range 40000 {
		x := randomParts(r, 1+r.Intn(40))
		l, e := expr.Tokens(x)
		if want := refCheck(x); e != want || e != api.OK && len(l) > 0 {
			t.Fatalf("Tokens(%v) = %v, %d, want %d", x, l, e, want)
		}
		if e != api.OK {
			continue
		}
		good++
		if want := refShow(refTree(x), false); plain(l) != want {
			t.Fatalf("Tokens(%s) = %q, want %q", behind(x), plain(l), want)
		}
		for _, k := range l {
			if k.At != 0 || k.Kind == api.KEnd || k.Kind == api.KNum && k.S != "" || k.Kind != api.KNum && (k.N != 0 || k.Type != 0) {
				t.Fatalf("Tokens(%s) has %+v", behind(x), k)
			}
		}
		readsOf(t, l, 0, x, len(l))
		for _, ahead := range []string{"a +", ";"} {
			front := tokens(ahead)
			readsOf(t, joined(front, l, tokens(";")), len(front), x, len(front)+len(l))
		}
	}
	if good < 5000 {
		t.Errorf("%d were right", good)
	}
}

// 6.3: as deep and as many as may be
func TestShownPartsOfTheGreatest(t *testing.T) {
	for _, x := range [][]api.Part{
		wide(250), append(wide(250), op(api.NNot)), chain(23),
		append(parts(variable("A")), slices.Repeat(parts(op(api.NNot)), 23)...), append(parts(variable("A")), slices.Repeat(parts(op(api.NNeg)), 23)...),
		append(parts(variable("A")), slices.Repeat(parts(index("A")), 23)...), append(parts(variable("A")), slices.Repeat(parts(to(api.TInt)), 23)...),
	} {
		l, e := expr.Tokens(x)
		if e != api.OK || plain(l) != refShow(refTree(x), false) {
			t.Errorf("Tokens(%s) = %q, %d", behind(x), plain(l), e)
		}
		readsOf(t, l, 0, x, len(l))
	}
}

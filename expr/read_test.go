package expr_test

import (
	"math"
	"math/rand"
	"slices"
	"strings"
	"testing"

	"capstan/api"
	"capstan/expr"
)

// reads fails the test unless s is read, as a whole, as the parts that want shows.
func reads(t *testing.T, s, want string) {
	t.Helper()
	l := tokens(s)
	x, next, f := expr.Parse(l, 0)
	if f != none || next != len(l) || behind(x) != want {
		t.Errorf("Parse(%q) = %s, %d, %v, want %s, %d", s, behind(x), next, f, want, len(l))
	}
	if e := expr.Check(x); f == none && e != api.OK {
		t.Errorf("Parse(%q) answers %v, which Check refuses: %d", s, x, e)
	}
}

// readsOf fails the test unless the tokens l are read from at on as these parts, up to next.
func readsOf(t *testing.T, l []api.Token, at int, want []api.Part, next int) {
	t.Helper()
	if x, n, f := expr.Parse(l, at); f != none || n != next || !slices.Equal(x, want) {
		t.Errorf("Parse(%q, %d) = %v, %d, %v, want %v, %d", plain(l), at, x, n, f, want, next)
	}
}

// refuses fails the test unless the tokens l are refused from at on with that fault, and nothing beside it.
func refuses(t *testing.T, l []api.Token, at, place int, code api.Errno) {
	t.Helper()
	if x, n, f := expr.Parse(l, at); len(x) != 0 || n != 0 || f != (api.Fault{At: place, Code: code}) {
		t.Errorf("Parse(%.300q, %d) = %.300s, %d, %v, want {%d %d} alone", plain(l), at, behind(x), n, f, place, code)
	}
}

// 6.1, the chapter's examples
func TestParseOfTheExamples(t *testing.T) {
	reads(t, "A + B * 2 < 7", "A B 2 * + 7 <")
	reads(t, "NOT A[I + 1] AND T.Q", "I 1 + A[] not T.Q AND")
	readsOf(t, tokens("NOT A[I + 1] AND T.Q"), 0, parts(variable("I"), num(1), op(api.NAdd), index("A"), op(api.NNot), field("T", "Q"), op(api.NAnd)), 11)
}

// 6.1
func TestParse(t *testing.T) {
	for _, c := range [][2]string{
		{"a", "A"}, {"5", "5"}, {"(a)", "A"}, {"((a))", "A"}, {"true", "TRUE"}, {"False", "FALSE"}, {"int#5", "INT#5"}, {"dint#-5", "DINT#-5"}, {"bool#1", "TRUE"}, {"bool#0", "FALSE"}, {"t#5s", "T#5000"},
		{"16#ffffffff", "-1"}, {"16#80000000", "-2147483648"}, {"2147483648", "2147483648"}, {"- 2147483648", "2147483648 neg"}, {"-int#-5", "INT#-5 neg"},
		{"a[1]", "1 A[]"}, {"a[a[1]]", "1 A[] A[]"}, {"a[b or c]", "B C OR A[]"}, {"a[(1)]", "1 A[]"}, {"a[-1]", "1 neg A[]"}, {"(a[1])", "1 A[]"},
		{"t.q", "T.Q"}, {"(t.q)", "T.Q"}, {"t.if", "T.IF"}, {"t.true", "T.TRUE"}, {"t.not", "T.NOT"}, {"t.t", "T.T"}, {"t.to_int", "T.TO_INT"}, {"t.and and t.or", "T.AND T.OR AND"},
		{"to_int(a)", "A TO_INT"}, {"to_dint(a or b)", "A B OR TO_DINT"}, {"to_time(to_dint(t.et))", "T.ET TO_DINT TO_TIME"}, {"to_int((a))", "A TO_INT"}, {"-to_int(5)", "5 TO_INT neg"},
		{"not a", "A not"}, {"-a", "A neg"}, {"not not a", "A not not"}, {"--a", "A neg neg"}, {"not -a", "A neg not"}, {"- not a", "A not neg"}, {"not (a or b)", "A B OR not"}, {"-(a)", "A neg"},
		{"not a[1]", "1 A[] not"}, {"-t.q", "T.Q neg"}, {"not a or b", "A not B OR"}, {"not a = b", "A not B ="}, {"-a * b", "A neg B *"}, {"a * -b", "A B neg *"}, {"a - -b", "A B neg -"}, {"a - - - b", "A B neg neg -"},
		{"a--b", "A B neg -"}, {"a + not b", "A B not +"}, {"a & b & c", "A B AND C AND"}, {"a & not b", "A B not AND"}, {"(a + b) * c", "A B + C *"}, {"a * (b + c)", "A B C + *"}, {"a - (b - c)", "A B C - -"},
		{"a < b = c > d", "A B < C D > ="}, {"a = b = c", "A B = C ="}, {"a < b < c", "A B < C <"}, {"a or b xor c and d = e < f + g * h", "A B C D E F G H * + < = AND XOR OR"},
		{"a * b + c < d = e and f xor g or h", "A B * C + D < E = F AND G XOR H OR"}, {"(((a))) + ((b))", "A B +"}, {"a[i] + b[j] * t.q", "I A[] J B[] T.Q * +"}, {"a = true", "A TRUE ="},
		{"not true", "TRUE not"}, {"a mod b mod c", "A B MOD C MOD"}, {"_ + __", "_ __ +"},
	} {
		reads(t, c[0], c[1])
	}
}

// rowOf answers the row of each sign of an operation of two values.
func rowOf(s string) int {
	return slices.IndexFunc(refRows, func(row []string) bool { return slices.Contains(row, s) })
}

// 6.1: each row of operations, two of one row and of any two rows, in either order
func TestRowsOfOperations(t *testing.T) {
	all := slices.Concat(refRows...)
	if len(all) != 15 {
		t.Fatalf("%d operations", len(all))
	}
	shown := func(s string) string {
		if s == "&" {
			return "AND"
		}
		return s
	}
	for _, p := range all {
		reads(t, "a "+p+" b", "A B "+shown(p))
		readsOf(t, tokens("a "+p+" b"), 0, parts(variable("A"), variable("B"), op(refNumbers[p])), 3)
		reads(t, "not a "+p+" - b", "A not B neg "+shown(p))
		for _, q := range all {
			want := "A B " + shown(p) + " C " + shown(q)
			if rowOf(q) > rowOf(p) {
				want = "A B C " + shown(q) + " " + shown(p)
			}
			reads(t, "a "+p+" b "+q+" c", want)
			reads(t, "(a "+p+" b) "+q+" c", "A B "+shown(p)+" C "+shown(q))
			reads(t, "a "+p+" (b "+q+" c)", "A B C "+shown(q)+" "+shown(p))
		}
	}
}

// 6.1
func TestParseOfPlaces(t *testing.T) {
	l := tokens("a b + c )")
	readsOf(t, l, 0, parts(variable("A")), 1)
	readsOf(t, l, 1, parts(variable("B"), variable("C"), op(api.NAdd)), 4)
	readsOf(t, l, 3, parts(variable("C")), 4)
	refuses(t, l, 2, 2, api.ErrExpr)
	refuses(t, l, 4, 4, api.ErrExpr)
	refuses(t, l, 5, 5, api.ErrExpr)
	for _, at := range []int{-1, -2, 6, 7, math.MaxInt, math.MinInt, 1 << 40} {
		refuses(t, l, at, 0, api.ErrRange)
	}
	for _, empty := range [][]api.Token{nil, {}} {
		refuses(t, empty, 0, 0, api.ErrExpr)
		refuses(t, empty, 1, 0, api.ErrRange)
		refuses(t, empty, -1, 0, api.ErrRange)
	}
	refuses(t, l[:3], 1, 3, api.ErrExpr) // what lies behind the length is not read
	readsOf(t, l[:4], 1, parts(variable("B"), variable("C"), op(api.NAdd)), 4)
	refuses(t, l[:0], 0, 0, api.ErrExpr)
	if x, n, f := expr.Parse([]api.Token{word("A"), {Kind: api.KEnd, At: 1}}, 0); len(x) != 1 || n != 1 || f != none {
		t.Errorf("with the end behind it: %v, %d, %v", x, n, f)
	}
	refuses(t, []api.Token{{Kind: api.KEnd}}, 0, 0, api.ErrExpr)
	refuses(t, []api.Token{{Kind: api.KEnd}}, 1, 1, api.ErrExpr)
}

// 6.1: what stands behind an expression
func TestTokensBehind(t *testing.T) {
	for _, s := range []string{"5", "b", "true", "not", "to_int", "if", "then", ")", "]", ",", ";", ":", ".. ", ":=", "**", "(", "int#5", "t#5s"} {
		rest := tokens(s)
		for _, c := range []struct {
			s    string
			want []api.Part
		}{
			{"a", parts(variable("A"))}, {"a + 1", parts(variable("A"), num(1), op(api.NAdd))}, {"(a)", parts(variable("A"))}, {"a[1]", parts(num(1), index("A"))},
			{"t.q", parts(field("T", "Q"))}, {"to_int(a)", parts(variable("A"), to(api.TInt))}, {"not a", parts(variable("A"), op(api.NNot))}, {"5", parts(num(5))}, {"true", parts(of(api.TBool, 1))},
		} {
			l := tokens(c.s)
			readsOf(t, append(slices.Clone(l), rest...), 0, c.want, len(l))
		}
	}
	for _, s := range []string{"[", "."} {
		for _, c := range []string{"5", "true", "(a)", "a[1]", "t.q", "to_int(a)", "(t).q", "a[1] . q", "t.q . x", "t . x [ 1 ]"} {
			if !same(t, append(tokens(c), sign(s)), 0) {
				t.Errorf("%q with %q behind it is refused", c, s)
			}
		}
	}
	readsOf(t, tokens("a[1].q"), 0, parts(num(1), index("A")), 4)
	readsOf(t, tokens("a[1][2]"), 0, parts(num(1), index("A")), 4)
	readsOf(t, tokens("t.q.x"), 0, parts(field("T", "Q")), 3)
	readsOf(t, tokens("t.q[1]"), 0, parts(field("T", "Q")), 3)
	readsOf(t, tokens("(a)[1]"), 0, parts(variable("A")), 3)
	readsOf(t, tokens("a ** b"), 0, parts(variable("A")), 1)
	readsOf(t, tokens("a not b"), 0, parts(variable("A")), 1)
}

// 6.1
func TestWhatMayNotStandThere(t *testing.T) {
	for _, c := range []struct {
		s  string
		at int
	}{
		{"", 0}, {"+", 0}, {"+ a", 0}, {"* a", 0}, {")", 0}, {"]", 0}, {"[", 0}, {"[1]", 0}, {".", 0}, {".q", 0}, {"and", 0}, {"or a", 0}, {"mod", 0}, {"= a", 0}, {"& a", 0}, {";", 0}, {":= a", 0}, {"..", 0}, {"**", 0}, {"** a", 0},
		{"(", 1}, {"()", 1}, {"(a", 2}, {"(a]", 2}, {"(a b)", 2}, {"((a)", 4}, {"(a + )", 3}, {"(a;", 2}, {"(a,b)", 2}, {"(a := b)", 2}, {"( + a)", 1}, {"(a.)", 3},
		{"a[", 2}, {"a[]", 2}, {"a[1", 3}, {"a[1)", 3}, {"a[1,2]", 3}, {"a[1 2]", 3}, {"a[1..2]", 3}, {"a[b[1]", 6}, {"a[;]", 2}, {"a[1;", 3},
		{"a.", 2}, {"a.5", 2}, {"a.+", 2}, {"a.(", 2}, {"a. .", 2}, {"a.int#5", 2}, {"a.[1]", 2},
		{"to_int", 1}, {"to_int 5", 1}, {"to_int a", 1}, {"to_int[a]", 1}, {"to_int()", 2}, {"to_int(", 2}, {"to_int(a", 3}, {"to_int(a]", 3}, {"to_int(a,b)", 3}, {"to_int.q", 1}, {"to_dint + 1", 1}, {"to_time)", 1}, {"to_int to_int (a)", 1},
		{"not", 1}, {"-", 1}, {"not not", 2}, {"- -", 2}, {"not +a", 1}, {"- *", 1}, {"not )", 1}, {"not and", 1}, {"a + ", 2}, {"a + + b", 2}, {"a and or b", 2}, {"a or", 2}, {"a < = b", 2}, {"a = = b", 2}, {"a * / b", 2}, {"a + b *", 4}, {"a & ", 2}, {"a & & b", 2}, {"a mod", 2}, {"a + )", 2},
		{"a < > b", 2}, {"a - ; b", 2}, {"1 + if", 2}, {"if", 0}, {"true + ", 2}, {"5 + then", 2}, {"(5 then", 2}, {"not if", 1},
	} {
		l := tokens(c.s)
		refuses(t, l, 0, c.at, api.ErrExpr)
		refuses(t, append(tokens("a ; ( b"), l...), 4, c.at+4, api.ErrExpr)
	}
	for _, k := range refKeywords {
		l := tokens(k)
		switch k {
		case "TRUE", "FALSE":
			reads(t, k, k)
		case "NOT", "TO_INT", "TO_DINT", "TO_TIME":
			refuses(t, l, 0, 1, api.ErrExpr)
		default:
			refuses(t, l, 0, 0, api.ErrExpr)
			refuses(t, append(l, tokens("( a )")...), 0, 0, api.ErrExpr)
			refuses(t, append(tokens("1 +"), l...), 0, 2, api.ErrExpr)
		}
		reads(t, "t."+k, "T."+k)
	}
}

// 6.1: tokens that no text has
func TestParseOfOddTokens(t *testing.T) {
	for _, s := range []string{"", "a", "aB", "5A", "A B", "É", "A\xff", strings.Repeat("A", 25), "+", "(", "true", "not", "to_int"} {
		refuses(t, []api.Token{word(s)}, 0, 0, api.ErrExpr)
		refuses(t, []api.Token{word("A"), sign("+"), word(s)}, 0, 2, api.ErrExpr)
		refuses(t, []api.Token{word(s), sign("."), word("Q")}, 0, 0, api.ErrExpr)
		readsOf(t, []api.Token{word("A"), word(s)}, 0, parts(variable("A")), 1)
	}
	for _, s := range []string{"A", "TRUE", "NOT", "AND", "TO_INT", "", "5", "((", "- "} {
		refuses(t, []api.Token{sign(s), sign("("), word("A"), sign(")")}, 0, 0, api.ErrExpr)
		refuses(t, []api.Token{word("T"), sign("."), sign(s)}, 0, 2, api.ErrExpr)
		readsOf(t, []api.Token{word("A"), sign(s), word("B")}, 0, parts(variable("A")), 1)
	}
	for _, s := range []string{"-", "&", "+", "(", "[", "."} {
		readsOf(t, []api.Token{word("A"), word(s), word("B")}, 0, parts(variable("A")), 1)
		readsOf(t, []api.Token{word("A"), {Kind: api.KEnd, S: s}, word("B")}, 0, parts(variable("A")), 1)
		readsOf(t, []api.Token{word("A"), {Kind: api.KNum, S: s}, word("B")}, 0, parts(variable("A")), 1)
	}
	for _, kind := range []int{-1, 0, api.KEnd, 5, 100, math.MaxInt, math.MinInt} {
		for _, s := range []string{"", "A", "(", "-", "NOT", "TRUE"} {
			refuses(t, []api.Token{{Kind: kind, S: s}, word("A"), sign(")")}, 0, 0, api.ErrExpr)
			refuses(t, []api.Token{sign("("), word("A"), {Kind: kind, S: ")"}}, 0, 2, api.ErrExpr)
			readsOf(t, []api.Token{word("A"), {Kind: kind, S: s}}, 0, parts(variable("A")), 1)
		}
	}
}

// 6.1, R2: a number is one, whatever it is, and whether its type fits it or not
func TestParseOfNumbers(t *testing.T) {
	for y := -2; y <= 7; y++ {
		for _, edge := range []int64{0, 1, -32768, 32767, 65536, -2147483648, 2147483647, 4294967296, math.MinInt64 + 3, math.MaxInt64 - 3} {
			for i := range int64(7) {
				n := edge - 3 + i
				one := numberOf(y, n)
				readsOf(t, []api.Token{one}, 0, parts(of(y, n)), 1)
				readsOf(t, []api.Token{sign("("), sign("-"), one, sign(")")}, 0, parts(of(y, n), op(api.NNeg)), 4)
				readsOf(t, []api.Token{word("A"), sign("["), one, sign("]")}, 0, parts(of(y, n), index("A")), 4)
				readsOf(t, []api.Token{word("TO_INT"), sign("("), one, sign(")"), one}, 0, parts(of(y, n), to(api.TInt)), 4)
				readsOf(t, []api.Token{word("A"), one, sign("*"), one}, 1, parts(of(y, n), of(y, n), op(api.NMul)), 4)
				refuses(t, []api.Token{word("A"), sign("."), one}, 0, 2, api.ErrExpr)
			}
		}
	}
	readsOf(t, []api.Token{word("TRUE")}, 0, parts(of(api.TBool, 1)), 1)
	readsOf(t, []api.Token{word("FALSE")}, 0, parts(of(api.TBool, 0)), 1)
}

// 6.1, R2: behind the . of a field a word is one, whatever its letters are
func TestParseOfFields(t *testing.T) {
	for _, s := range []string{"", "q", "aB", "5", "5A", "A B", "É", "A\xff", ".", "+", "(", "true", "not", strings.Repeat("A", 24), strings.Repeat("A", 25), strings.Repeat("q", 100000)} {
		one := []api.Token{word("T"), sign("."), word(s)}
		readsOf(t, one, 0, parts(field("T", s)), 3)
		readsOf(t, joined(tokens("a not"), one, tokens("and"), one, tokens(";")), 1, parts(field("T", s), op(api.NNot), field("T", s), op(api.NAnd)), 9)
		readsOf(t, joined(one, []api.Token{sign("."), word(s)}), 0, parts(field("T", s)), 3)
		for _, kind := range []int{-1, 0, api.KEnd, api.KNum, api.KSign, 5} {
			refuses(t, []api.Token{word("T"), sign("."), {Kind: kind, S: s}}, 0, 2, api.ErrExpr)
		}
	}
}

// 6.1, R2: numbers and fields that Check refuses are as many and as deep as others
func TestLimitsWithWhatIsHandedIn(t *testing.T) {
	for _, c := range []struct {
		l []api.Token
		p api.Part
	}{
		{[]api.Token{numberOf(api.TBool, 2)}, of(api.TBool, 2)}, {[]api.Token{numberOf(9, 1)}, of(9, 1)}, {[]api.Token{number(1 << 40)}, num(1 << 40)}, {[]api.Token{word("T"), sign("."), word("q")}, field("T", "q")},
	} {
		if e := expr.Check(parts(c.p)); e != api.ErrExpr {
			t.Errorf("Check(%v) = %d", c.p, e)
		}
		for n := 1; n <= 30; n++ {
			if l := joined(times("not", n-1), c.l); n > api.MaxDepth {
				refuses(t, l, 0, 0, api.ErrLong)
				refuses(t, joined(tokens("a b"), l), 2, 2, api.ErrLong)
			} else {
				readsOf(t, l, 0, append(parts(c.p), slices.Repeat(parts(op(api.NNot)), n-1)...), len(l))
			}
		}
		just := joined(tokens("not ("), bracketed(wide(250)), tokens(")"))
		place := slices.IndexFunc(just, func(k api.Token) bool { return expr.Name(k.S) })
		just = joined(just[:place], c.l, just[place+1:])
		if x, next, f := expr.Parse(just, 0); f != none || next != len(just) || len(x) != 500 || x[0] != c.p {
			t.Errorf("Parse(%.300q) = %.300s, %d, %v", plain(just), behind(x), next, f)
		}
		refuses(t, joined(tokens("-"), just), 0, 0, api.ErrLong)
		refuses(t, joined(times("1 +", 600), c.l), 0, 0, api.ErrLong)
		refuses(t, joined(times("(", 201), c.l), 0, 200, api.ErrLong)
		refuses(t, joined(c.l, tokens("+")), 0, len(c.l)+1, api.ErrExpr)
	}
}

// joined answers all of the lists, one behind the other.
func joined(l ...[]api.Token) []api.Token { return slices.Concat(l...) }

// times answers the tokens of s, n times over.
func times(s string, n int) []api.Token { return slices.Repeat(tokens(s), n) }

// 6.1: just 500 parts, and one more
func TestParseOfLengths(t *testing.T) {
	for n := 240; n <= 260; n++ {
		x := wide(n)
		l := bracketed(x)
		if len(x) <= 500 {
			readsOf(t, l, 0, x, len(l))
		} else {
			refuses(t, l, 0, 0, api.ErrLong)
		}
	}
	just := append(wide(250), op(api.NNot))
	l := joined(tokens("not ("), bracketed(wide(250)), tokens(")"))
	readsOf(t, l, 0, just, len(l))
	readsOf(t, joined(tokens("a b"), l), 2, just, len(l)+2)
	over := joined(tokens("-"), l)
	refuses(t, over, 0, 0, api.ErrLong)
	refuses(t, joined(tokens("a b"), over, tokens("c")), 2, 2, api.ErrLong)
	refuses(t, joined(tokens("a b"), over, tokens("+")), 2, len(over)+3, api.ErrExpr)
	refuses(t, joined(tokens("("), over), 0, len(over)+1, api.ErrExpr)
	refuses(t, joined(times("1 +", 100000), tokens("1")), 0, 0, api.ErrLong)
	refuses(t, times("1 +", 100000), 0, 200000, api.ErrExpr)
}

// bracketed answers tokens of which just the parts x, of variables and sums, are read.
func bracketed(x []api.Part) []api.Token {
	var walk func(n *refNode) []api.Token
	walk = func(n *refNode) []api.Token {
		if len(n.on) == 0 {
			return []api.Token{word(n.part.S)}
		}
		return joined(tokens("("), walk(n.on[0]), tokens("+"), walk(n.on[1]), tokens(")"))
	}
	return walk(refTree(x))
}

// 6.1: a depth of just api.MaxDepth, and of one more
func TestParseOfDepths(t *testing.T) {
	for _, c := range []struct{ ahead, first, behind string }{
		{"not", "a", ""}, {"-", "5", ""}, {"a [", "1", "]"}, {"to_int (", "t.q", ")"}, {"", "a", "+ b"}, {"", "true", "and a"}, {"a + (", "b", ")"}, {"- (", "a", ")"}, {"not to_int (", "a", ")"},
	} {
		each := max(1, strings.Count(c.ahead, "not to_int")*2)
		for n := 20; n <= 28; n++ {
			l := joined(times(c.ahead, n), tokens(c.first), times(c.behind, n))
			if n*each+1 > api.MaxDepth {
				refuses(t, l, 0, 0, api.ErrLong)
				refuses(t, joined(tokens("a b"), l, tokens("c")), 2, 2, api.ErrLong)
				refuses(t, joined(tokens("a ("), l), 1, len(l)+2, api.ErrExpr)
				continue
			}
			if x, next, f := expr.Parse(l, 0); f != none || next != len(l) || refTree(x).depth() != n*each+1 {
				t.Errorf("Parse(%q) = %s, %d, %v", plain(l), behind(x), next, f)
			}
		}
	}
	reads(t, strings.Repeat("(", 200)+"a"+strings.Repeat(")", 200), "A")
	reads(t, strings.Repeat("(", 100)+"a"+strings.Repeat(")", 100)+" + "+strings.Repeat("(", 200)+"b"+strings.Repeat(")", 200), "A B +")
}

// opener is tokens that open one more, at the place at among them.
type opener struct {
	s  string
	at int
}

// 6.1: just 200 open at once, and one more, of each kind
func TestParseOfWhatIsOpen(t *testing.T) {
	ones := []opener{{"(", 0}, {"not", 0}, {"-", 0}, {"a [", 1}, {"to_int (", 1}, {"to_dint (", 1}, {"to_time (", 1}}
	for _, c := range append(slices.Clone(ones), opener{"a + (", 2}, opener{"b * a [", 3}, opener{"( not", 1}, opener{"5 - - a [", 4}) {
		each := 1 + strings.Count(c.s, "not")*strings.Count(c.s, "(") + strings.Count(c.s, "- -")
		just := times(c.s, 200/each)
		refuses(t, just, 0, len(just), api.ErrExpr)
		refuses(t, joined(just, tokens(")")), 0, len(just), api.ErrExpr)
		refuses(t, joined(just, tokens("to_int 5 (")), 0, len(just)+1, api.ErrExpr)
		refuses(t, joined(just, tokens("+ (")), 0, len(just), api.ErrExpr)
		less := just[:len(just)-len(tokens(c.s))]
		for _, more := range ones {
			over := joined(just, tokens(more.s))
			refuses(t, over, 0, len(just)+more.at, api.ErrLong)
			refuses(t, joined(over, tokens("+ ) ;")), 0, len(just)+more.at, api.ErrLong)
			refuses(t, joined(tokens("a b"), over), 2, len(just)+more.at+2, api.ErrLong)
			refuses(t, joined(less, tokens(more.s)), 0, len(less)+len(tokens(more.s)), api.ErrExpr)
		}
	}
}

// closing answers the sign that ends what open opens, if there is one.
func closing(open string) string {
	switch {
	case strings.HasSuffix(open, "("):
		return ")"
	case strings.HasSuffix(open, "["):
		return "]"
	}
	return ""
}

// 6.1: a NOT or a - is open up to the end of its value
func TestParseOfOpenOperations(t *testing.T) {
	for _, s := range []string{"not", "-"} {
		just := times(s, 200)
		for _, value := range []string{"a", "5", "true", "t.q"} {
			refuses(t, joined(just, tokens(value)), 0, 0, api.ErrLong)
			refuses(t, joined(just, tokens(value+" + "), just, tokens(value)), 0, 0, api.ErrLong)
			refuses(t, joined(just, tokens(value+" + ("), just, tokens(value)), 0, len(just)+len(tokens(value))+1+200, api.ErrLong)
			refuses(t, joined(just, tokens(value+" +")), 0, len(just)+len(tokens(value))+1, api.ErrExpr)
		}
		refuses(t, joined(just[1:], tokens("( a ) +"), just, tokens("a")), 0, 0, api.ErrLong)
		refuses(t, joined(just[1:], tokens("a [ b ] +"), just, tokens("a")), 0, 0, api.ErrLong)
		refuses(t, joined(just[1:], tokens("to_int ( b ) +"), just, tokens("a")), 0, 0, api.ErrLong)
		refuses(t, joined(just[1:], tokens("( a + "+s)), 0, 202, api.ErrLong)
		refuses(t, joined(just[2:], tokens("( a + "+s+" b )")), 0, 0, api.ErrLong)
	}
}

// 6.1: what is at its end is not open any more, and what does not count
func TestParseOfWhatIsNotOpen(t *testing.T) {
	refused := func(l []api.Token) { refuses(t, l, 0, 0, api.ErrLong) } // as a whole: for its length, not for what is open
	refused(joined(times("(a) +", 300), tokens("b")))
	refused(joined(times("a[1] +", 300), tokens("b")))
	refused(joined(times("to_int(a) +", 300), tokens("b")))
	refused(joined(times("not a and", 300), tokens("b")))
	refused(joined(times("- a -", 300), tokens("b")))
	refused(joined(times("a - - a * not", 300), tokens("b")))
	refused(joined(times("(not (-a)) and not", 300), tokens("b")))
	refused(joined(times("a -", 300), tokens("b")))
	refused(joined(times("t.not -", 300), tokens("b")))
	for _, one := range []string{"(a)", "a[1]", "to_int(a)", "not a", "-a", "a[-(1)]"} {
		l := joined(times("(", 190), tokens(one+" +"), times("(", 10), tokens("a"), times(")", 200))
		if _, n, f := expr.Parse(l, 0); f != none || n != len(l) {
			t.Errorf("Parse(%q) = %d, %v", plain(l), n, f)
		}
		l = joined(times("(", 199), tokens("not "+one))
		want := api.Fault{At: len(l), Code: api.ErrExpr}
		switch one {
		case "(a)", "not a", "-a":
			want = api.Fault{At: 200, Code: api.ErrLong}
		case "a[1]", "to_int(a)", "a[-(1)]":
			want = api.Fault{At: 201, Code: api.ErrLong}
		}
		refuses(t, l, 0, want.At, want.Code)
	}
	mixed := joined(times("( a[ not - to_int(", 40), tokens("a"), times(")])", 40))
	refuses(t, mixed, 0, 0, api.ErrLong)
	if n := len(times("( a[ not - to_int(", 40)); n != 280 {
		t.Fatalf("%d tokens", n)
	}
	refuses(t, joined(times("( a[ not - to_int(", 40), tokens("a ("), times(")])", 40)), 0, 281, api.ErrExpr)
	refuses(t, joined(times("( a[ not - to_int(", 40), tokens("- a"), times(")])", 40)), 0, 280, api.ErrLong)
	refuses(t, joined(times("( a[ not - to_int(", 40), tokens("b[1]"), times(")])", 40)), 0, 281, api.ErrLong)
	refuses(t, joined(times("(", 100000)), 0, 200, api.ErrLong)
	refuses(t, joined(times("- not", 100000)), 0, 200, api.ErrLong)
	refuses(t, joined(times("a[", 100000)), 1, 1, api.ErrExpr)
	refuses(t, joined(times("a[", 100000)), 0, 401, api.ErrLong)
}

// 6.1, R1: which error comes first
func TestFirstErrorOfParse(t *testing.T) {
	deep := joined(times("not", 30), tokens("a"))
	refuses(t, deep, 0, 0, api.ErrLong)
	refuses(t, joined(deep, tokens("+")), 0, 32, api.ErrExpr)
	refuses(t, joined(tokens("a +"), times("(", 201), tokens("+")), 0, 202, api.ErrLong)
	refuses(t, joined(tokens("a + +"), times("(", 201)), 0, 2, api.ErrExpr)
	refuses(t, joined(times("(", 150), tokens("* (")), 0, 150, api.ErrExpr)
	refuses(t, joined(times("1 +", 600), times("(", 201)), 0, 1400, api.ErrLong)
	refuses(t, joined(times("1 +", 600), tokens("* ")), 0, 1200, api.ErrExpr)
	refuses(t, joined(times("1 +", 600), tokens("1 *")), 0, 1202, api.ErrExpr)
	refuses(t, joined(deep, times("+ 1", 600)), 0, 0, api.ErrLong)
	refuses(t, times("(", 300), -1, 0, api.ErrRange)
	refuses(t, times("(", 300), 301, 0, api.ErrRange)
	refuses(t, times("(", 300), 99, 299, api.ErrLong)
	refuses(t, times("(", 300), 100, 300, api.ErrExpr)
}

// randomTokens answers tokens that are mostly an expression.
func randomTokens(r *rand.Rand, n int) []api.Token {
	odd := []api.Token{numberOf(api.TBool, 2), numberOf(9, 1), number(-1 << 40), word("q"), word("")}
	values := []string{"A", "B", "5", "INT#7", "TRUE", "FALSE", "T . Q", "T . IF", "A [ 1 ]", "TO_INT ( A )"}
	openings := []string{"(", "(", "A [", "TO_INT (", "TO_TIME (", "-", "NOT", "NOT"}
	var l []api.Token
	var ends []string
	value := true
	for range n {
		switch {
		case r.Intn(50) == 0:
			some := []string{")", "]", "(", "[", ".", "AND", "-", "A", "5", "NOT", "TO_INT", "IF", ";", "&", "TRUE"}
			l = append(l, tokens(some[r.Intn(len(some))])...)
		case value && r.Intn(30) == 0:
			l = append(l, word("T"), sign("."), odd[3+r.Intn(2)])
			value = false
		case r.Intn(60) == 0:
			l = append(l, odd[r.Intn(len(odd))])
			value = false
		case value && r.Intn(5) < 2:
			o := openings[r.Intn(len(openings))]
			l = append(l, tokens(o)...)
			if c := closing(o); c != "" {
				ends = append(ends, c)
			}
		case value:
			l = append(l, tokens(values[r.Intn(len(values))])...)
			value = false
		case len(ends) > 0 && r.Intn(3) == 0:
			l = append(l, sign(ends[len(ends)-1]))
			ends = ends[:len(ends)-1]
		default:
			row := refRows[r.Intn(len(refRows))]
			l = append(l, tokens(row[r.Intn(len(row))])...)
			value = true
		}
	}
	if value && r.Intn(9) > 0 {
		l = append(l, word("Z"))
	}
	for r.Intn(30) > 0 && len(ends) > 0 {
		l = append(l, sign(ends[len(ends)-1]))
		ends = ends[:len(ends)-1]
	}
	return l
}

// same fails the test unless Parse answers what the reference does.
func same(t *testing.T, l []api.Token, at int) bool {
	t.Helper()
	x, n, f := expr.Parse(l, at)
	wx, wn, wf := refParse(l, at)
	if !slices.Equal(x, wx) || n != wn || f != wf {
		t.Fatalf("Parse(%q, %d) = %v, %d, %v, want %v, %d, %v", plain(l), at, x, n, f, wx, wn, wf)
	}
	if e := expr.Check(x); f == none && e != refCheck(x) {
		t.Fatalf("Parse(%q, %d) answers %v, of which Check answers %d", plain(l), at, x, e)
	}
	return f == none
}

// 6.1, R7
func TestParseAgainstTheReference(t *testing.T) {
	r := rand.New(rand.NewSource(61))
	good := 0
	for range 40000 {
		l := randomTokens(r, 1+r.Intn(25))
		if same(t, l, 0) && same(t, l, 0) {
			good++
		}
		same(t, l, r.Intn(len(l)+3)-1)
	}
	if good < 10000 {
		t.Errorf("%d were right", good)
	}
	for range 2000 {
		same(t, randomTokens(r, r.Intn(1500)), 0)
	}
}

// 6.1: all lists of up to 4 of these tokens
func TestParseOfShortLists(t *testing.T) {
	some := joined(tokens("A 5 TRUE NOT - + * AND & < ( ) [ ] . TO_INT IF ;"), []api.Token{numberOf(api.TInt, 40000), word("q"), {Kind: api.KEnd}})
	var try func(l []api.Token)
	try = func(l []api.Token) {
		same(t, l, 0)
		if len(l) < 4 {
			for _, k := range some {
				try(append(slices.Clone(l), k))
			}
		}
	}
	try(nil)
}

// R4
func TestTokensStayAsTheyAre(t *testing.T) {
	room := joined(tokens("a[i + 1] = t.q and not b"), tokens("+ c"))
	kept := slices.Clone(room)
	l := room[:len(room)-2]
	x, next, f := expr.Parse(l, 0)
	want := slices.Clone(x)
	if f != none || next != len(l) || !slices.Equal(room, kept) {
		t.Fatalf("%q turned into %q, %d, %v", plain(kept), plain(room), next, f)
	}
	for i := range x[:cap(x)] {
		x[:cap(x)][i] = api.Part{Kind: 9}
	}
	if !slices.Equal(room, kept) {
		t.Errorf("writing to the answer turned %q into %q", plain(kept), plain(room))
	}
	readsOf(t, l, 0, want, next)
}

package stmt_test

import (
	"math"
	"regexp"
	"slices"
	"strings"

	"capstan/api"
	"capstan/expr"
)

// What the package is held against: a reader that calls itself, hangs each statement into a tree as soon as it begins, and measures the tree when it has stopped; and a writer of texts.

var refKeywords = strings.Fields(`PROGRAM END_PROGRAM VAR VAR_INPUT VAR_OUTPUT END_VAR ARRAY OF BOOL INT DINT TIME TON TOF TP CTU CTD R_TRIG F_TRIG SR RS QUAD IF THEN ELSIF ELSE END_IF CASE END_CASE WHILE DO END_WHILE FOR TO BY END_FOR REPEAT UNTIL END_REPEAT EXIT RETURN AND OR XOR NOT MOD TRUE FALSE TO_INT TO_DINT TO_TIME`)

var refWord = regexp.MustCompile(`\A[A-Z_][A-Z_0-9]{0,23}\z`)

func refName(s string) bool {
	return refWord.MatchString(s) && !slices.Contains(refKeywords, s)
}

// refNode is a statement with its place; lists of statements are those of its tree, not of its Stmt.
type refNode struct {
	at         int
	s          api.Stmt
	body, last []*refNode
	arms       [][]*refNode
}

type refReader struct {
	l []api.Token
	i int
}

func (r *refReader) token() api.Token {
	if r.i < len(r.l) {
		return r.l[r.i]
	}
	return api.Token{}
}

func (r *refReader) fail(at int, code api.Errno) {
	panic(api.Fault{At: at, Code: code})
}

func (r *refReader) sees(s string) bool {
	kind := api.KSign
	if s[0] >= 'A' && s[0] <= 'Z' {
		kind = api.KWord
	}
	return r.token().Kind == kind && r.token().S == s
}

// takes goes on behind s, if it is next.
func (r *refReader) takes(s string) bool {
	if r.sees(s) {
		r.i++
		return true
	}
	return false
}

func (r *refReader) must(s string) {
	if !r.takes(s) {
		r.fail(r.i, api.ErrStmt)
	}
}

func (r *refReader) expr() []api.Part {
	x, next, f := expr.Parse(r.l, r.i)
	if f != none {
		panic(f)
	}
	r.i = next
	return x
}

func (r *refReader) word(name bool) string {
	t := r.token()
	if t.Kind != api.KWord || name && !refName(t.S) {
		r.fail(r.i, api.ErrStmt)
	}
	r.i++
	return t.S
}

func (r *refReader) number(by bool) int64 {
	sign := int64(1)
	if r.takes("-") {
		sign = -1
	}
	t := r.token()
	if t.Kind != api.KNum || t.Type != 0 || t.N < -1<<40 || t.N > 1<<40 || sign*t.N < math.MinInt32 || sign*t.N > math.MaxInt32 || by && t.N == 0 {
		r.fail(r.i, api.ErrStmt)
	}
	r.i++
	return sign * t.N
}

func (r *refReader) list(to *[]*refNode) {
	for {
		t := r.token()
		if t.Kind != api.KWord || !refName(t.S) && !slices.Contains(strings.Fields("IF WHILE REPEAT FOR CASE EXIT RETURN"), t.S) {
			return
		}
		n := &refNode{at: r.i}
		*to = append(*to, n)
		r.i++
		r.one(n, t.S)
		r.must(";")
	}
}

func (r *refReader) one(n *refNode, word string) {
	s := &n.s
	switch word {
	case "IF":
		r.branch(n)
		r.must("END_IF")
	case "WHILE":
		s.Kind, s.X = api.SWhile, r.expr()
		r.must("DO")
		r.list(&n.body)
		r.must("END_WHILE")
	case "REPEAT":
		s.Kind = api.SRepeat
		r.list(&n.body)
		r.must("UNTIL")
		s.X = r.expr()
		r.must("END_REPEAT")
	case "FOR":
		s.Kind, s.By, s.Name = api.SFor, 1, r.word(true)
		r.must(":=")
		s.X = r.expr()
		r.must("TO")
		s.Y = r.expr()
		if r.takes("BY") {
			s.By = r.number(true)
		}
		r.must("DO")
		r.list(&n.body)
		r.must("END_FOR")
	case "CASE":
		r.cases(n)
	case "EXIT":
		s.Kind = api.SExit
	case "RETURN":
		s.Kind = api.SReturn
	default:
		s.Name = word
		r.named(s)
	}
}

func (r *refReader) branch(n *refNode) {
	n.s.Kind, n.s.X = api.SIf, r.expr()
	r.must("THEN")
	r.list(&n.body)
	if r.sees("ELSIF") {
		n.last = append(n.last, &refNode{at: r.i, s: api.Stmt{Kind: api.SIf}})
		r.i++
		r.branch(n.last[0])
	} else if r.takes("ELSE") {
		r.list(&n.last)
	}
}

func (r *refReader) cases(n *refNode) {
	n.s.Kind, n.s.X = api.SCase, r.expr()
	r.must("OF")
	for r.token().Kind == api.KNum || r.sees("-") {
		labels := []int64{r.number(false)}
		for r.takes(",") {
			labels = append(labels, r.number(false))
		}
		r.must(":")
		n.s.Arms = append(n.s.Arms, api.Arm{Labels: labels})
		n.arms = append(n.arms, nil)
		r.list(&n.arms[len(n.arms)-1])
	}
	if r.takes("ELSE") {
		r.list(&n.last)
	}
	r.must("END_CASE")
}

func (r *refReader) named(s *api.Stmt) {
	s.Kind = api.SSet
	if r.takes("(") {
		s.Kind = api.SCall
		for !r.takes(")") {
			if len(s.Args) > 0 {
				r.must(",")
			}
			a := api.Arg{Name: r.word(false)}
			r.must(":=")
			a.X = r.expr()
			s.Args = append(s.Args, a)
			if !r.sees(",") && !r.sees(")") {
				r.fail(r.i, api.ErrStmt)
			}
		}
		return
	}
	if r.takes("[") {
		s.Index = r.expr()
		r.must("]")
	}
	r.must(":=")
	s.X = r.expr()
}

// refDeep answers the place of the first one that is more than 20 deep, or -1.
func refDeep(list []*refNode, depth int) int {
	for _, n := range list {
		if depth > 20 {
			return n.at
		}
		lists, last := append([][]*refNode{n.body}, n.arms...), depth+1
		if n.s.Kind == api.SIf && len(n.last) == 1 && n.last[0].s.Kind == api.SIf {
			last = depth
		}
		for _, l := range lists {
			if at := refDeep(l, depth+1); at >= 0 {
				return at
			}
		}
		if at := refDeep(n.last, last); at >= 0 {
			return at
		}
	}
	return -1
}

// refStmts answers the statements of a tree, and whether there are too many args, labels or arms.
func refStmts(list []*refNode) (s []api.Stmt, many bool) {
	for _, n := range list {
		var m bool
		x := n.s
		many = many || len(x.Args) > 8 || len(x.Arms) > 32
		x.Body, m = refStmts(n.body)
		many = many || m
		for i := range x.Arms {
			x.Arms[i].Body, m = refStmts(n.arms[i])
			many = many || m || len(x.Arms[i].Labels) > 16
		}
		x.Else, m = refStmts(n.last)
		many = many || m
		s = append(s, x)
	}
	return s, many
}

func refParse(l []api.Token, at int) (s []api.Stmt, next int, f api.Fault) {
	if at < 0 || at > len(l) {
		return nil, 0, api.Fault{Code: api.ErrRange}
	}
	var tree []*refNode
	r := &refReader{l: l, i: at}
	func() {
		defer func() {
			if e := recover(); e != nil {
				f = e.(api.Fault)
			}
		}()
		r.list(&tree)
	}()
	if deep := refDeep(tree, 1); deep >= 0 {
		return nil, 0, api.Fault{At: deep, Code: api.ErrLong}
	}
	if f != none {
		return nil, 0, f
	}
	s, many := refStmts(tree)
	if many || refCount(s) > 400 {
		return nil, 0, api.Fault{At: at, Code: api.ErrLong}
	}
	return s, r.i, none
}

func refCount(s []api.Stmt) int {
	n := len(s)
	for _, x := range s {
		n += refCount(x.Body) + refCount(x.Else)
		for _, a := range x.Arms {
			n += refCount(a.Body)
		}
	}
	return n
}

// refText answers statements as chapter 5 would show their tokens.
func refText(s []api.Stmt) string {
	var out []string
	for _, x := range s {
		out = append(out, refTextOf(x), ";")
	}
	return strings.Join(out, " ")
}

func refTextOf(s api.Stmt) string {
	with := func(f ...string) string {
		return strings.Join(slices.DeleteFunc(f, func(s string) bool { return s == "" }), " ")
	}
	otherwise := func() string {
		if len(s.Else) == 0 {
			return ""
		}
		return "ELSE " + refText(s.Else)
	}
	switch s.Kind {
	case api.SSet:
		if len(s.Index) > 0 {
			return with(s.Name, "[", exprText(s.Index), "] :=", exprText(s.X))
		}
		return with(s.Name, ":=", exprText(s.X))
	case api.SIf:
		t := with("IF", exprText(s.X), "THEN", refText(s.Body))
		if len(s.Else) == 1 && s.Else[0].Kind == api.SIf {
			return with(t, "ELS"+refTextOf(s.Else[0]))
		}
		return with(t, otherwise(), "END_IF")
	case api.SWhile:
		return with("WHILE", exprText(s.X), "DO", refText(s.Body), "END_WHILE")
	case api.SRepeat:
		return with("REPEAT", refText(s.Body), "UNTIL", exprText(s.X), "END_REPEAT")
	case api.SFor:
		by := ""
		if s.By != 1 {
			by = "BY " + numberText(s.By)
		}
		return with("FOR", s.Name, ":=", exprText(s.X), "TO", exprText(s.Y), by, "DO", refText(s.Body), "END_FOR")
	case api.SCase:
		t := with("CASE", exprText(s.X), "OF")
		for _, a := range s.Arms {
			var labels []string
			for _, n := range a.Labels {
				labels = append(labels, numberText(n))
			}
			t = with(t, strings.Join(labels, " , "), ":", refText(a.Body))
		}
		return with(t, otherwise(), "END_CASE")
	case api.SCall:
		var args []string
		for _, a := range s.Args {
			args = append(args, with(a.Name, ":=", exprText(a.X)))
		}
		return with(s.Name, "(", strings.Join(args, " , "), ")")
	case api.SExit:
		return "EXIT"
	}
	return "RETURN"
}

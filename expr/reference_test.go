package expr_test

import (
	"regexp"
	"slices"
	"strings"

	"capstan/api"
)

// What the package is held against: a reader that goes through the tokens once, with a stack of what is open, and parts that are taken apart from the back.

var refKeywords = strings.Fields(`PROGRAM END_PROGRAM VAR VAR_INPUT VAR_OUTPUT END_VAR ARRAY OF BOOL INT DINT TIME TON TOF TP CTU CTD R_TRIG F_TRIG SR RS QUAD IF THEN ELSIF ELSE END_IF CASE END_CASE WHILE DO END_WHILE FOR TO BY END_FOR REPEAT UNTIL END_REPEAT EXIT RETURN AND OR XOR NOT MOD TRUE FALSE TO_INT TO_DINT TO_TIME`)

// refRows are the operations of two values, row by row, those that take in the most first.
var refRows = [][]string{{"OR"}, {"XOR"}, {"AND", "&"}, {"=", "<>"}, {"<", "<=", ">", ">="}, {"+", "-"}, {"*", "/", "MOD"}}

var refNumbers = map[string]int64{
	"+": api.NAdd, "-": api.NSub, "*": api.NMul, "/": api.NDiv, "MOD": api.NMod, "AND": api.NAnd, "&": api.NAnd, "OR": api.NOr, "XOR": api.NXor,
	"=": api.NEq, "<>": api.NNe, "<": api.NLt, "<=": api.NLe, ">": api.NGt, ">=": api.NGe,
}

var refConversions = map[string]int{"TO_INT": api.TInt, "TO_DINT": api.TDint, "TO_TIME": api.TTime}

var refWord = regexp.MustCompile(`\A[A-Z_][A-Z_0-9]{0,23}\z`)

func refName(s string) bool {
	return refWord.MatchString(s) && !slices.Contains(refKeywords, s)
}

func refNumber(t int, n int64) bool {
	switch t {
	case 0:
		return n >= -2147483648 && n <= 2147483648
	case api.TBool:
		return n == 0 || n == 1
	case api.TInt:
		return n >= -32768 && n <= 32767
	case api.TDint, api.TTime:
		return n >= -2147483648 && n <= 2147483647
	}
	return false
}

// refRow answers the row of the operation of two values that t is, or -1.
func refRow(t api.Token) int {
	for i, row := range refRows {
		if slices.Contains(row, t.S) {
			isWord := t.S[0] >= 'A' && t.S[0] <= 'Z'
			if isWord && t.Kind == api.KWord || !isWord && t.Kind == api.KSign {
				return i
			}
		}
	}
	return -1
}

// refEntry is one on the stack: an operation of two values with its row, one of one value, or a bracket with its end. The part comes out at the end of it.
type refEntry struct {
	row   int
	unary bool
	end   string
	part  api.Part
}

type refReader struct {
	l     []api.Token
	i     int
	stack []refEntry
	out   []api.Part
}

func (r *refReader) token(ahead int) api.Token {
	if r.i+ahead < len(r.l) {
		return r.l[r.i+ahead]
	}
	return api.Token{Kind: api.KEnd}
}

// pop takes off what holds, from the top.
func (r *refReader) pop(holds func(e refEntry) bool) {
	for len(r.stack) > 0 && holds(r.stack[len(r.stack)-1]) {
		r.out = append(r.out, r.stack[len(r.stack)-1].part)
		r.stack = r.stack[:len(r.stack)-1]
	}
}

// push lays e onto the stack for the token there; false: one too many is open.
func (r *refReader) push(e refEntry) bool {
	open := 0
	for _, s := range r.stack {
		if s.unary || s.end != "" {
			open++
		}
	}
	if open == 200 && (e.unary || e.end != "") {
		return false
	}
	r.stack = append(r.stack, e)
	r.i++
	return true
}

// value reads up to the end of a value's first tokens: whether a whole one was read, and what went wrong.
func (r *refReader) value() (whole bool, e api.Errno) {
	sure := func(ok bool) (bool, api.Errno) {
		if !ok {
			return false, api.ErrLong
		}
		return false, api.OK
	}
	t := r.token(0)
	to := refConversions[t.S]
	done := func(n int, p api.Part) (bool, api.Errno) {
		r.i += n
		r.out = append(r.out, p)
		return true, api.OK
	}
	switch {
	case t.Kind == api.KSign && t.S == "(":
		return sure(r.push(refEntry{end: ")"}))
	case t.Kind == api.KSign && t.S == "-":
		return sure(r.push(refEntry{unary: true, part: api.Part{Kind: api.POp, N: api.NNeg}}))
	case t.Kind == api.KWord && t.S == "NOT":
		return sure(r.push(refEntry{unary: true, part: api.Part{Kind: api.POp, N: api.NNot}}))
	case t.Kind == api.KNum:
		return done(1, api.Part{Kind: api.PNum, N: t.N, T: t.Type})
	case t.Kind == api.KWord && t.S == "TRUE":
		return done(1, api.Part{Kind: api.PNum, N: 1, T: api.TBool})
	case t.Kind == api.KWord && t.S == "FALSE":
		return done(1, api.Part{Kind: api.PNum, T: api.TBool})
	case t.Kind == api.KWord && to != 0:
		r.i++
		if b := r.token(0); b.Kind != api.KSign || b.S != "(" {
			return false, api.ErrExpr
		}
		return sure(r.push(refEntry{end: ")", part: api.Part{Kind: api.PTo, T: to}}))
	case t.Kind == api.KWord && refName(t.S):
		b, f := r.token(1), r.token(2)
		if b.Kind == api.KSign && b.S == "[" {
			r.i++
			return sure(r.push(refEntry{end: "]", part: api.Part{Kind: api.PIndex, S: t.S}}))
		}
		if b.Kind != api.KSign || b.S != "." {
			return done(1, api.Part{Kind: api.PVar, S: t.S})
		}
		if f.Kind != api.KWord {
			r.i += 2
			return false, api.ErrExpr
		}
		return done(3, api.Part{Kind: api.PField, S: t.S, F: f.S})
	}
	return false, api.ErrExpr
}

// behind reads what stands behind a whole value: whether another value must come, and whether the expression is at its end.
func (r *refReader) behind() (again, end bool, e api.Errno) {
	for {
		r.pop(func(e refEntry) bool { return e.unary })
		t := r.token(0)
		if row := refRow(t); row >= 0 {
			r.pop(func(e refEntry) bool { return e.end == "" && e.row >= row })
			r.push(refEntry{row: row, part: api.Part{Kind: api.POp, N: refNumbers[t.S]}})
			return true, false, api.OK
		}
		r.pop(func(e refEntry) bool { return e.end == "" })
		if len(r.stack) == 0 {
			return false, true, api.OK
		}
		b := r.stack[len(r.stack)-1]
		if t.Kind != api.KSign || t.S != b.end {
			return false, false, api.ErrExpr
		}
		r.stack = r.stack[:len(r.stack)-1]
		if b.part.Kind != 0 {
			r.out = append(r.out, b.part)
		}
		r.i++
	}
}

func refParse(l []api.Token, at int) ([]api.Part, int, api.Fault) {
	if at < 0 || at > len(l) {
		return nil, 0, api.Fault{Code: api.ErrRange}
	}
	r := &refReader{l: l, i: at}
	for {
		whole, e := r.value()
		if e != api.OK {
			return nil, 0, api.Fault{At: r.i, Code: e}
		}
		if !whole {
			continue
		}
		again, end, e := r.behind()
		if e != api.OK {
			return nil, 0, api.Fault{At: r.i, Code: e}
		}
		if end && (len(r.out) > 500 || refTree(r.out).depth() > 24) {
			return nil, 0, api.Fault{At: at, Code: api.ErrLong}
		}
		if end {
			return r.out, r.i, api.Fault{}
		}
		if !again {
			panic("neither a value nor an end")
		}
	}
}

// refNode is a part with what it works on.
type refNode struct {
	part api.Part
	on   []*refNode
}

func (n *refNode) depth() int {
	d := 0
	for _, o := range n.on {
		d = max(d, o.depth())
	}
	return d + 1
}

// refTree answers the tree of parts of kinds and operations that there are, or nil if they are none or not just one.
func refTree(x []api.Part) *refNode {
	i := len(x)
	var take func() *refNode
	take = func() *refNode {
		if i == 0 {
			return nil
		}
		i--
		n := &refNode{part: x[i]}
		count := 0
		switch n.part.Kind {
		case api.PIndex, api.PTo:
			count = 1
		case api.POp:
			count = 2
			if n.part.N == api.NNeg || n.part.N == api.NNot {
				count = 1
			}
		}
		for range count {
			o := take()
			if o == nil {
				return nil
			}
			n.on = append([]*refNode{o}, n.on...)
		}
		return n
	}
	n := take()
	if i > 0 {
		return nil
	}
	return n
}

func refPart(p api.Part) bool {
	zeroN, zeroT, zeroS, zeroF := p.N == 0, p.T == 0, p.S == "", p.F == ""
	switch p.Kind {
	case api.PNum:
		return refNumber(p.T, p.N) && zeroS && zeroF
	case api.PVar, api.PIndex:
		return refName(p.S) && zeroN && zeroT && zeroF
	case api.PField:
		return refName(p.S) && refWord.MatchString(p.F) && zeroN && zeroT
	case api.POp:
		return p.N >= 1 && p.N <= 16 && zeroT && zeroS && zeroF
	case api.PTo:
		return (p.T == api.TInt || p.T == api.TDint || p.T == api.TTime) && zeroN && zeroS && zeroF
	}
	return false
}

func refCheck(x []api.Part) api.Errno {
	if len(x) > 500 {
		return api.ErrLong
	}
	for _, p := range x {
		if !refPart(p) {
			return api.ErrExpr
		}
	}
	if n := refTree(x); n == nil || n.depth() > 24 {
		return api.ErrExpr
	}
	return api.OK
}

// refShow answers the tokens of parts that may be, as a text of tokens with a blank between two.
func refShow(n *refNode, within bool) string {
	p := n.part
	switch p.Kind {
	case api.PNum:
		return shownNumber(p.T, p.N)
	case api.PVar:
		return p.S
	case api.PIndex:
		return p.S + " [ " + refShow(n.on[0], false) + " ]"
	case api.PField:
		return p.S + " . " + p.F
	case api.PTo:
		return []string{2: "TO_INT", 3: "TO_DINT", 4: "TO_TIME"}[p.T] + " ( " + refShow(n.on[0], false) + " )"
	}
	var s string
	switch p.N {
	case api.NNot:
		s = "NOT " + refShow(n.on[0], true)
	case api.NNeg:
		s = "- " + refShow(n.on[0], true)
	default:
		s = refShow(n.on[0], true) + " " + signs[p.N] + " " + refShow(n.on[1], true)
	}
	if within {
		return "( " + s + " )"
	}
	return s
}

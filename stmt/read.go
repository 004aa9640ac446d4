package stmt

import (
	"errors"

	"capstan/api"
	"capstan/expr"
)

// What the reader refuses. The place is known to the reader.
var (
	errToken      = errors.New("a token that may not stand there")
	errExpression = errors.New("what is refused as an expression")
	errDepth      = errors.New("a statement that is too deep")
	errMany       = errors.New("more than there may be")
)

// start is where a statement begins, and within which one, by its number among the starts.
type start struct {
	at     int
	within int
	elsif  bool // it is as deep as the one that it is within
}

// outermost is the number of the holder that is no statement itself: it holds all of them.
const outermost = -1

// holder is a statement that holds others and is not at its end as yet.
type holder struct {
	s         api.Stmt
	number    int  // among the starts
	elsif     bool // it was begun by ELSIF, so it ends where the one around it does
	inElse    bool // what comes next is its Else
	firstElse int  // the number of the first statement in its Else
}

// reader goes through tokens. It does not call itself for what is within: ELSIFs, and IFs that are alone in an ELSE, may be as many as there are tokens.
type reader struct {
	tokens  []api.Token
	at      int      // the place of the next token
	holders []holder // from the outside in; the first one holds all statements
	starts  []start
	many    bool      // labels, arms or args are more than there may be
	fault   api.Fault // what package expr has refused, with errExpression
	deep    int       // the place of the statement that is too deep, with errDepth
}

// piece reads what must come next, or answers what it refuses.
type piece func() error

// Parse answers the statements that begin at the place at, and the place behind them.
func Parse(l []api.Token, at int) (s []api.Stmt, next int, f api.Fault) {
	if at < 0 || at > len(l) {
		return nil, 0, api.Fault{Code: api.ErrRange}
	}
	r := &reader{tokens: l, at: at, holders: []holder{{number: outermost}}}
	err := r.all()
	switch {
	case errors.Is(err, errToken):
		return nil, 0, api.Fault{At: r.at, Code: api.ErrStmt}
	case errors.Is(err, errExpression):
		return nil, 0, r.fault
	case errors.Is(err, errDepth):
		return nil, 0, api.Fault{At: r.deep, Code: api.ErrLong}
	case errors.Is(err, errMany):
		return nil, 0, api.Fault{At: at, Code: api.ErrLong}
	}
	return r.holders[0].s.Body, r.at, api.Fault{}
}

// all reads the statements. One that is too deep is known of only where it is clear which IFs are alone in an ELSE; yet each begins ahead of the token at which reading stopped, so it is the first thing that is wrong.
func (r *reader) all() error {
	err := r.statements()
	if deep := r.depth(); deep != nil {
		return deep
	}
	if err == nil && (r.many || len(r.starts) > maxStmts) {
		return errMany
	}
	return err
}

// depth answers errDepth if a statement that was begun is too deep.
func (r *reader) depth() error {
	depths := make([]int, len(r.starts))
	for i, s := range r.starts {
		if s.within != outermost {
			depths[i] = depths[s.within]
		}
		if !s.elsif {
			depths[i]++
		}
		if depths[i] > maxDepth {
			r.deep = s.at
			return errDepth
		}
	}
	return nil
}

// statements reads on till a token comes that begins no statement, while none is open.
func (r *reader) statements() error {
	for {
		var err error
		switch {
		case r.begins():
			err = r.statement()
		case len(r.holders) > 1:
			err = r.behindList()
		default:
			return nil
		}
		if err != nil {
			return err
		}
	}
}

// begins answers whether the next token begins a statement.
func (r *reader) begins() bool {
	t := r.next()
	if t.Kind != api.KWord {
		return false
	}
	switch t.S {
	case "IF", "WHILE", "REPEAT", "FOR", "CASE", "EXIT", "RETURN":
		return true
	}
	return expr.Name(t.S)
}

// statement reads one, or of one that holds others what stands ahead of these.
func (r *reader) statement() error {
	word := r.next().S
	r.start()
	s := api.Stmt{}
	switch word {
	case "IF":
		return r.condition(false)
	case "WHILE":
		s.Kind = api.SWhile
		return inOrder(r.word("WHILE"), r.expression(&s.X), r.word("DO"), r.hold(&s))
	case "REPEAT":
		s.Kind = api.SRepeat
		return inOrder(r.word("REPEAT"), r.hold(&s))
	case "FOR":
		s.Kind, s.By = api.SFor, 1
		return inOrder(r.word("FOR"), r.name(&s.Name), r.sign(":="), r.expression(&s.X), r.word("TO"), r.expression(&s.Y), r.by(&s.By), r.word("DO"), r.hold(&s))
	case "CASE":
		s.Kind = api.SCase
		return inOrder(r.word("CASE"), r.expression(&s.X), r.word("OF"), r.hold(&s), r.behindList)
	case "EXIT":
		s.Kind = api.SExit
		return inOrder(r.word("EXIT"), r.end(&s))
	case "RETURN":
		s.Kind = api.SReturn
		return inOrder(r.word("RETURN"), r.end(&s))
	}
	return inOrder(r.name(&s.Name), r.behindName(&s))
}

// start notes that a statement begins at the next token. An IF that is the first one in the ELSE of an IF is taken for an ELSIF till another statement comes beside it.
func (r *reader) start() {
	h := r.innermost()
	elsif := false
	if h.s.Kind == api.SIf && h.inElse {
		if len(h.s.Else) == 0 {
			h.firstElse = len(r.starts)
			elsif = r.is(api.KWord, "ELSIF") || r.is(api.KWord, "IF")
		} else {
			r.starts[h.firstElse].elsif = false
		}
	}
	r.starts = append(r.starts, start{at: r.at, within: h.number, elsif: elsif})
}

// condition reads IF or ELSIF, and what stands up to the statements.
func (r *reader) condition(elsif bool) error {
	s := api.Stmt{Kind: api.SIf}
	r.at++
	err := inOrder(r.expression(&s.X), r.word("THEN"), r.hold(&s))
	if err == nil {
		r.innermost().elsif = elsif
	}
	return err
}

// behindName reads what a statement has behind the name with which it begins.
func (r *reader) behindName(s *api.Stmt) piece {
	return func() error {
		if r.is(api.KSign, "(") {
			s.Kind = api.SCall
			return inOrder(r.sign("("), r.args(&s.Args), r.sign(")"), r.end(s))
		}
		s.Kind = api.SSet
		return inOrder(r.index(&s.Index), r.sign(":="), r.expression(&s.X), r.end(s))
	}
}

// index reads the index of one of an array, if there is one.
func (r *reader) index(to *[]api.Part) piece {
	return func() error {
		if !r.is(api.KSign, "[") {
			return nil
		}
		return inOrder(r.sign("["), r.expression(to), r.sign("]"))
	}
}

// args reads the args of a call, if there are any.
func (r *reader) args(to *[]api.Arg) piece {
	return func() error {
		if r.is(api.KSign, ")") {
			return nil
		}
		for {
			a := api.Arg{}
			if err := inOrder(r.anyWord(&a.Name), r.sign(":="), r.expression(&a.X)); err != nil {
				return err
			}
			*to = append(*to, a)
			r.limit(len(*to), maxArgs)
			if !r.is(api.KSign, ",") {
				return nil
			}
			r.at++
		}
	}
}

// by reads the BY of a FOR, if there is one.
func (r *reader) by(to *int64) piece {
	return func() error {
		if !r.is(api.KWord, "BY") {
			return nil
		}
		return inOrder(r.word("BY"), r.number(to, true))
	}
}

// behindList reads what stands behind the statements that the innermost holder has as yet: more of it, or its end.
func (r *reader) behindList() error {
	h := r.innermost()
	switch h.s.Kind {
	case api.SIf:
		return r.behindIf(h)
	case api.SCase:
		return r.behindArm(h)
	case api.SWhile:
		return inOrder(r.word("END_WHILE"), r.close)
	case api.SRepeat:
		return inOrder(r.word("UNTIL"), r.expression(&h.s.X), r.word("END_REPEAT"), r.close)
	}
	return inOrder(r.word("END_FOR"), r.close)
}

func (r *reader) behindIf(h *holder) error {
	if !h.inElse && r.is(api.KWord, "ELSIF") {
		h.inElse = true
		r.start()
		return r.condition(true)
	}
	if r.beginsElse(h) {
		return nil
	}
	return inOrder(r.word("END_IF"), r.close)
}

func (r *reader) behindArm(h *holder) error {
	if !h.inElse && (r.next().Kind == api.KNum || r.is(api.KSign, "-")) {
		return r.arm(h)
	}
	if r.beginsElse(h) {
		return nil
	}
	return inOrder(r.word("END_CASE"), r.close)
}

// beginsElse takes an ELSE, if one stands next and there was none.
func (r *reader) beginsElse(h *holder) bool {
	if h.inElse || !r.is(api.KWord, "ELSE") {
		return false
	}
	h.inElse = true
	r.at++
	return true
}

// arm reads the labels of an arm, and lets the case that h holds have it.
func (r *reader) arm(h *holder) error {
	a := api.Arm{}
	for {
		var n int64
		if err := r.number(&n, false)(); err != nil {
			return err
		}
		a.Labels = append(a.Labels, n)
		r.limit(len(a.Labels), maxLabels)
		if !r.is(api.KSign, ",") {
			break
		}
		r.at++
	}
	h.s.Arms = append(h.s.Arms, a)
	r.limit(len(h.s.Arms), maxArms)
	return r.sign(":")()
}

// limit notes whether there are more of something than there may be: that is refused behind all else.
func (r *reader) limit(n, most int) {
	r.many = r.many || n > most
}

// hold lets s hold the statements that come next.
func (r *reader) hold(s *api.Stmt) piece {
	return func() error {
		r.holders = append(r.holders, holder{s: *s, number: len(r.starts) - 1})
		return nil
	}
}

// end reads the end of a statement that holds none.
func (r *reader) end(s *api.Stmt) piece {
	return func() error {
		if err := r.sign(";")(); err != nil {
			return err
		}
		r.innermost().add(*s)
		return nil
	}
}

// close reads the end of the innermost holder, and of all those that end with it.
func (r *reader) close() error {
	if err := r.sign(";")(); err != nil {
		return err
	}
	for {
		h := *r.innermost()
		r.holders = r.holders[:len(r.holders)-1]
		r.innermost().add(h.s)
		if !h.elsif {
			return nil
		}
	}
}

func (r *reader) innermost() *holder {
	return &r.holders[len(r.holders)-1]
}

// add puts a statement behind those that are read at present.
func (h *holder) add(s api.Stmt) {
	switch {
	case h.inElse:
		h.s.Else = append(h.s.Else, s)
	case h.s.Kind == api.SCase:
		a := &h.s.Arms[len(h.s.Arms)-1]
		a.Body = append(a.Body, s)
	default:
		h.s.Body = append(h.s.Body, s)
	}
}

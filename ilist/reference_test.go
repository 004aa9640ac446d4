package ilist_test

import (
	"fmt"
	"regexp"
	"strconv"
	"strings"

	"capstan/api"
	"capstan/decl"
	"capstan/lex"
	"capstan/typed"
)

// A second reading of the chapter, which knows of types, fields and operations as texts: tokens become one text, expressions take lines from its front, code is texts whose places are set in at the end.

const (
	keywords   = " PROGRAM END_PROGRAM VAR VAR_INPUT VAR_OUTPUT END_VAR ARRAY OF BOOL INT DINT TIME TON TOF TP CTU CTD R_TRIG F_TRIG SR RS QUAD IF THEN ELSIF ELSE END_IF CASE END_CASE WHILE DO END_WHILE FOR TO BY END_FOR REPEAT UNTIL END_REPEAT EXIT RETURN AND OR XOR NOT MOD TRUE FALSE TO_INT TO_DINT TO_TIME "
	refFields  = " TON.IN:BOOL! TON.PT:TIME! TON.Q:BOOL TON.ET:TIME TON.START:TIME TON.RUN:BOOL CTU.CU:BOOL! CTU.R:BOOL! CTU.PV:INT! CTU.Q:BOOL CTU.CV:INT CTU.M:BOOL CTD.CD:BOOL! CTD.LD:BOOL! CTD.PV:INT! CTD.Q:BOOL CTD.CV:INT CTD.M:BOOL TRIG.CLK:BOOL! TRIG.Q:BOOL TRIG.M:BOOL SR.S1:BOOL! SR.R:BOOL! SR.Q1:BOOL RS.S:BOOL! RS.R1:BOOL! RS.Q1:BOOL QUAD.A:BOOL! QUAD.B:BOOL! QUAD.R:BOOL! QUAD.CV:DINT QUAD.ERR:BOOL QUAD.LAST:INT "
	refResults = " AND:BOOL=BOOL AND:INT=INT AND:DINT=DINT OR:BOOL=BOOL OR:INT=INT OR:DINT=DINT XOR:BOOL=BOOL XOR:INT=INT XOR:DINT=DINT ADD:INT=INT ADD:DINT=DINT ADD:TIME=TIME SUB:INT=INT SUB:DINT=DINT SUB:TIME=TIME MUL:INT=INT MUL:DINT=DINT DIV:INT=INT DIV:DINT=DINT MOD:INT=INT MOD:DINT=DINT GT:INT=BOOL GT:DINT=BOOL GT:TIME=BOOL GE:INT=BOOL GE:DINT=BOOL GE:TIME=BOOL LE:INT=BOOL LE:DINT=BOOL LE:TIME=BOOL LT:INT=BOOL LT:DINT=BOOL LT:TIME=BOOL EQ:BOOL=BOOL EQ:INT=BOOL EQ:DINT=BOOL EQ:TIME=BOOL NE:BOOL=BOOL NE:INT=BOOL NE:DINT=BOOL NE:TIME=BOOL NOT:BOOL=BOOL NOT:INT=INT NOT:DINT=DINT NEG:INT=INT NEG:DINT=DINT NEG:TIME=TIME "
	refSigns   = " ADD:+ SUB:- MUL:* DIV:/ MOD:MOD AND:AND OR:OR XOR:XOR EQ:= NE:<> LT:< LE:<= GT:> GE:>= "
)

var (
	labelLine   = regexp.MustCompile(`^([A-Z_][A-Z0-9_]*) : `)
	operandLine = regexp.MustCompile(`^(LD|LDN|ST|S|R|AND|ANDN|OR|ORN|XOR|ADD|SUB|MUL|DIV|MOD|GT|GE|EQ|NE|LE|LT) (?:#([A-Z]*):(-?[0-9]+)|([A-Z_][A-Z0-9_]*)( \.)?(?: ([A-Z_][A-Z0-9_]*))?) `)
	bareLine    = regexp.MustCompile(`^(LD|LDN|ST|S|R|AND|ANDN|OR|ORN|XOR|ADD|SUB|MUL|DIV|MOD|GT|GE|EQ|NE|LE|LT) ([A-Z_][A-Z0-9_]*) `)
	nameLine    = regexp.MustCompile(`^(JMP|JMPC|JMPCN|CAL) ([A-Z_][A-Z0-9_]*) `)
	aloneLine   = regexp.MustCompile(`^(NOT|NEG|RET) `)
)

// valueOf answers what stands behind the key in one of the texts above, and whether the key is there.
func valueOf(list, key string) (string, bool) {
	_, behind, ok := strings.Cut(list, " "+key)
	value, _, _ := strings.Cut(behind, " ")
	return value, ok
}

// refLine is a line: its word (: for a label), and what stands behind it.
type refLine struct {
	word, typ, number, name, field string
	isNumber, hasField             bool
	tokens                         int
}

// lineOf answers the line at the front of the text of tokens, or none.
func lineOf(rest string) (refLine, bool) {
	isKeyword := func(s string) bool { return strings.Contains(keywords, " "+s+" ") }
	if f := labelLine.FindStringSubmatch(rest); f != nil {
		return refLine{word: ":", name: f[1], tokens: 2}, !isKeyword(f[1])
	}
	if f := nameLine.FindStringSubmatch(rest); f != nil {
		return refLine{word: f[1], name: f[2], tokens: 2}, !isKeyword(f[2])
	}
	if f := aloneLine.FindStringSubmatch(rest); f != nil {
		return refLine{word: f[1], tokens: 1}, true
	}
	f := operandLine.FindStringSubmatch(rest)
	switch {
	case f != nil && f[3] != "":
		return refLine{word: f[1], typ: f[2], number: f[3], isNumber: true, tokens: 2}, true
	case f != nil && f[5] != "" && f[4] != "TRUE" && f[4] != "FALSE":
		return refLine{word: f[1], name: f[4], field: f[6], hasField: true, tokens: 4}, f[6] != "" && !isKeyword(f[4])
	}
	f = bareLine.FindStringSubmatch(rest)
	switch {
	case f == nil:
		return refLine{}, false
	case f[2] == "TRUE":
		return refLine{word: f[1], typ: "BOOL", number: "1", isNumber: true, tokens: 2}, true
	case f[2] == "FALSE":
		return refLine{word: f[1], typ: "BOOL", number: "0", isNumber: true, tokens: 2}, true
	}
	// a name with a . behind it and no word there is no operand, though the name alone would be one
	return refLine{word: f[1], name: f[2], tokens: 2}, !isKeyword(f[2]) && !strings.HasPrefix(rest[len(f[0]):], ". ")
}

// refCell is what a name means, by "T" or "T.Q".
type refCell struct {
	typ   string // "ARRAY" and "BLOCK" are such ones too
	cell  int
	fixed bool
	kind  string
}

// refCells answers what all names mean.
func refCells(vars []api.Var) (all map[string]refCell, types string) {
	all, at := map[string]refCell{}, 0
	for _, v := range vars {
		switch {
		case v.Len > 0:
			all[v.Name] = refCell{typ: "ARRAY"}
			types += strings.Repeat(typeNames[v.Type]+" ", v.Len)
			at += v.Len
		case v.Type > api.Block:
			kind := blockNames[v.Type-api.Block]
			all[v.Name] = refCell{typ: "BLOCK", cell: at, kind: kind}
			table := map[string]string{"TOF": "TON", "TP": "TON", "R_TRIG": "TRIG", "F_TRIG": "TRIG"}[kind]
			if table == "" {
				table = kind
			}
			for _, f := range strings.Fields(refFields) {
				if name, typ, ok := strings.Cut(strings.TrimPrefix(f, table+"."), ":"); ok && strings.HasPrefix(f, table+".") {
					settable := strings.HasSuffix(typ, "!")
					all[v.Name+"."+name] = refCell{typ: strings.TrimSuffix(typ, "!"), cell: at, fixed: !settable}
					types += strings.TrimSuffix(typ, "!") + " "
					at++
				}
			}
		default:
			all[v.Name] = refCell{typ: typeNames[v.Type], cell: at, fixed: v.Dir == api.DInput}
			types += typeNames[v.Type] + " "
			at++
		}
	}
	return all, types
}

// refList is code in the making: texts, of which ":X" is a place, and "JUMP @X" goes to one.
type refList struct {
	cells map[string]refCell
	under string
	code  []string
	local int
	jumps []refJump
}

type refJump struct {
	at    int
	label string
}

func (r *refList) add(code ...string) { r.code = append(r.code, code...) }

func (r *refList) has(label string) bool {
	for _, c := range r.code {
		if c == ":"+label {
			return true
		}
	}
	return false
}

// what answers what the line's operand means: whether its name is missing, whether it is of a wrong kind, its type ("" for a number of none), and the instruction for it.
func (r *refList) what(l refLine) (missing, wrongKind bool, typ string, c refCell) {
	if l.isNumber {
		return false, false, l.typ, refCell{fixed: true}
	}
	v, there := r.cells[l.name]
	switch {
	case !there:
		return true, false, "", v
	case !l.hasField:
		return false, v.typ == "ARRAY" || v.typ == "BLOCK", v.typ, v
	}
	f, ok := r.cells[l.name+"."+l.field]
	return false, v.typ != "BLOCK" || !ok, f.typ, f
}

// fitsIn answers whether a number fits a type.
func fitsIn(number, typ string) bool {
	n, _ := strconv.ParseInt(number, 10, 64)
	switch typ {
	case "BOOL":
		return n == 0 || n == 1
	case "INT":
		return n >= -1<<15 && n < 1<<15
	}
	return n >= -1<<31 && n < 1<<31
}

// line adds the code of a line, or answers what is wrong with it.
func (r *refList) line(l refLine, at int) api.Errno {
	needsNone := strings.Contains(" : LD LDN JMP CAL RET ", " "+l.word+" ")
	switch {
	case l.word == ":" && r.has(l.name):
		return api.ErrLabel
	case needsNone != (r.under == ""):
		return api.ErrStmt
	}
	switch l.word {
	case ":":
		r.add(":" + l.name)
	case "RET":
		r.add("END")
	case "JMP":
		r.jump("JUMP", l.name, at)
	case "JMPC", "JMPCN":
		if r.under != "BOOL" {
			return api.ErrType
		}
		if l.word == "JMPC" {
			r.add("ONE NOT BOOL")
		}
		r.jump("FALSE", l.name, at)
		r.under = ""
	case "CAL":
		v, there := r.cells[l.name]
		if !there {
			return api.ErrName
		}
		if v.typ != "BLOCK" {
			return api.ErrKind
		}
		r.add(fmt.Sprint("CALL ", v.kind, " ", v.cell))
	case "NOT", "NEG":
		if _, ok := valueOf(refResults, l.word+":"+r.under+"="); !ok {
			return api.ErrType
		}
		r.add("ONE " + l.word + " " + r.under)
	default:
		return r.withOperand(l)
	}
	return api.OK
}

func (r *refList) jump(op, label string, at int) {
	r.add(op + " @" + label)
	r.jumps = append(r.jumps, refJump{at, label})
}

// withOperand adds the code of a line with an operand, whose errors are all reckoned first, and then told in the chapter's order.
func (r *refList) withOperand(l refLine) api.Errno {
	missing, wrongKind, typ, c := r.what(l)
	stores := l.word == "ST" || l.word == "S" || l.word == "R"
	ofBools := l.word == "LDN" || l.word == "S" || l.word == "R" || l.word == "ANDN" || l.word == "ORN"
	if l.isNumber && typ == "" {
		switch {
		case l.word != "LD" && l.word != "LDN":
			if r.under == "INT" || r.under == "DINT" {
				typ = r.under
			}
		case fitsIn(l.number, "INT"):
			typ = "INT"
		default:
			typ = "DINT"
		}
	}
	operation := strings.TrimSuffix(l.word, "N")
	result, has := valueOf(refResults, operation+":"+typ+"=")
	isTwo := r.under != "" && !stores
	wrongType := r.under != "" && typ != r.under || ofBools && typ != "BOOL" || isTwo && !has
	switch {
	case missing:
		return api.ErrName
	case wrongKind || stores && c.fixed:
		return api.ErrKind
	case wrongType:
		return api.ErrType
	case l.isNumber && !fitsIn(l.number, typ):
		return api.ErrRange
	}
	bring := fmt.Sprint("LOAD ", c.cell)
	if l.isNumber {
		bring = "PUSH " + typ + " " + l.number
	}
	if strings.HasSuffix(l.word, "N") {
		bring += ";ONE NOT BOOL"
	}
	switch {
	case l.word == "ST":
		r.add(fmt.Sprint("STORE ", c.cell))
		r.under = ""
	case stores:
		r.local++
		behind := fmt.Sprint("#", r.local)
		r.add("FALSE @"+behind, "PUSH BOOL "+map[string]string{"S": "1", "R": "0"}[l.word], fmt.Sprint("STORE ", c.cell), ":"+behind)
		r.under = ""
	case isTwo:
		sign, _ := valueOf(refSigns, operation+":")
		r.add(append(strings.Split(bring, ";"), "TWO "+sign+" "+typ)...)
		r.under = result
	default:
		r.add(strings.Split(bring, ";")...)
		r.under = typ
	}
	return api.OK
}

// numbered answers the code with the places of its labels, or the place of the first jump to none.
func (r *refList) numbered() (code []string, at int, e api.Errno) {
	places := map[string]int{}
	for _, c := range r.code {
		if strings.HasPrefix(c, ":") {
			places[c[1:]] = len(code)
		} else {
			code = append(code, c)
		}
	}
	for _, j := range r.jumps {
		if !r.has(j.label) {
			return nil, j.at, api.ErrLabel
		}
	}
	if len(code) > 4096 {
		return nil, 0, api.ErrLong
	}
	for i, c := range code {
		if op, label, ok := strings.Cut(c, " @"); ok {
			code[i] = fmt.Sprint(op, " ", places[label])
		}
	}
	return code, 0, api.OK
}

// refAssemble answers the code of the lines and the types of all cells, as texts, or what is refused.
func refAssemble(head, lines string) (code, types string, at int, e api.Errno) {
	p, f := decl.Parse(head)
	if f.Code != api.OK {
		return "", "", -1, f.Code
	}
	if _, e := typed.Check(p); e != api.OK {
		return "", "", -1, e
	}
	if len(p.Body) > 0 {
		return "", "", -1, api.ErrStmt
	}
	tokens, f := lex.Tokens(lines)
	if f.Code != api.OK {
		return "", "", f.At, f.Code
	}
	var words []string
	for _, t := range tokens[:len(tokens)-1] {
		switch t.Kind {
		case api.KNum:
			words = append(words, fmt.Sprintf("#%s:%d", strings.TrimPrefix(named(typeNames[:], t.Type), "?0"), t.N))
		default:
			words = append(words, t.S)
		}
	}
	r := &refList{}
	r.cells, types = refCells(p.Vars)
	for next := 0; next < len(words); {
		at := tokens[next].At
		// no line has more than four tokens; one more may tell that it is none
		l, ok := lineOf(strings.Join(words[next:min(next+5, len(words))], " ") + " ")
		if !ok {
			return "", "", at, api.ErrStmt
		}
		if e := r.line(l, at); e != api.OK {
			return "", "", at, e
		}
		next += l.tokens
	}
	if r.under != "" {
		return "", "", tokens[len(tokens)-1].At, api.ErrStmt
	}
	r.add("END")
	made, at, e := r.numbered()
	if e != api.OK {
		return "", "", at, e
	}
	return strings.Join(made, "; "), types, 0, api.OK
}

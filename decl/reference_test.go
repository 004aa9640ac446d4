package decl_test

import (
	"fmt"
	"regexp"
	"slices"
	"strings"

	"capstan/api"
	"capstan/lex"
	"capstan/stmt"
)

// What the package is held against: a reader that goes from state to state by a table of what may stand at each, looks at firsts by ranges, and leaves statements to package stmt; and a writer of texts.

var refKeywords = strings.Fields(`PROGRAM END_PROGRAM VAR VAR_INPUT VAR_OUTPUT END_VAR ARRAY OF BOOL INT DINT TIME TON TOF TP CTU CTD R_TRIG F_TRIG SR RS QUAD IF THEN ELSIF ELSE END_IF CASE END_CASE WHILE DO END_WHILE FOR TO BY END_FOR REPEAT UNTIL END_REPEAT EXIT RETURN AND OR XOR NOT MOD TRUE FALSE TO_INT TO_DINT TO_TIME`)

var refWord = regexp.MustCompile(`\A[A-Z_][A-Z_0-9]{0,23}\z`)

func refName(s string) bool {
	return refWord.MatchString(s) && !slices.Contains(refKeywords, s)
}

var refTypes = map[string]int{
	"BOOL": 1, "INT": 2, "DINT": 3, "TIME": 4,
	"TON": 101, "TOF": 102, "TP": 103, "CTU": 104, "CTD": 105, "R_TRIG": 106, "F_TRIG": 107, "SR": 108, "RS": 109, "QUAD": 110,
}

var refDirs = map[string]int{"VAR": 0, "VAR_INPUT": 1, "VAR_OUTPUT": 2}

// refRanges are the firsts that a type has, from the least to the greatest.
var refRanges = map[int][2]int64{1: {0, 1}, 2: {-32768, 32767}, 3: {-2147483648, 2147483647}, 4: {0, 2147483647}}

// refStates says what may stand at a state, and which state is behind it.
var refStates = map[string]map[string]string{
	"program":  {"PROGRAM": "title"},
	"title":    {"name": "sections"},
	"sections": {"VAR": "vars", "VAR_INPUT": "vars", "VAR_OUTPUT": "vars"},
	"vars":     {"END_VAR": "sections", "name": "colon"},
	"colon":    {":": "type"},
	"type":     {"value": "assign", "block": "close", "ARRAY": "open"},
	"open":     {"[": "zero"},
	"zero":     {"0": "dots"},
	"dots":     {"..": "last"},
	"last":     {"0": "shut", "1 to 31": "shut"},
	"shut":     {"]": "of"},
	"of":       {"OF": "values"},
	"values":   {"value": "close"},
	"assign":   {":=": "first", ";": "vars"},
	"first":    {"-": "minus", "0": "close", "1 to 31": "close", "number": "close", "typed": "close", "TRUE": "close", "FALSE": "close"},
	"minus":    {"0": "close", "1 to 31": "close", "number": "close"},
	"close":    {";": "vars"},
	"done":     {"END_PROGRAM": "end"},
	"end":      {"end": "all"},
}

// refClass answers by which word the states know the token. An array and a block are none in a section of inputs or outputs.
func refClass(t api.Token, dir int) string {
	if t.Kind == api.KEnd {
		return "end"
	}
	if t.Kind == api.KNum {
		switch {
		case t.Type != 0:
			return "typed"
		case t.N == 0:
			return "0"
		case t.N > 0 && t.N < 32:
			return "1 to 31"
		}
		return "number"
	}
	if t.Kind == api.KSign {
		return t.S
	}
	kind := refTypes[t.S]
	switch {
	case refName(t.S):
		return "name"
	case dir != 0 && (kind > 100 || t.S == "ARRAY"):
		return "neither"
	case kind > 100:
		return "block"
	case kind > 0:
		return "value"
	}
	return t.S
}

// refFits answers whether a first of these tokens fits a type.
func refFits(first []api.Token, kind int) (int64, bool) {
	t := first[len(first)-1]
	n := t.N
	told := t.Type
	if t.Kind == api.KWord {
		told = 1
		if t.S == "TRUE" {
			n = 1
		}
	}
	if len(first) == 2 {
		n = -n
	}
	within := refRanges[kind]
	return n, (told == kind || told == 0 && (kind == 2 || kind == 3)) && within[0] <= n && n <= within[1]
}

func refParse(s string) (p api.Program, f api.Fault) {
	l, f := lex.Tokens(s)
	if f != none {
		return api.Program{}, f
	}
	wrong := func(i int, code api.Errno) (api.Program, api.Fault) {
		return api.Program{}, api.Fault{At: l[i].At, Code: code}
	}
	state, v, begin := "program", api.Var{}, 0
	for i := 0; state != "all"; i++ {
		if _, section := refDirs[l[i].S]; state == "sections" && !section {
			body, next, fault := stmt.Parse(l, i)
			if fault != none {
				return wrong(fault.At, fault.Code)
			}
			p.Body, i, state = body, next, "done"
		}
		class := refClass(l[i], v.Dir)
		next, may := refStates[state][class]
		if !may {
			return wrong(i, api.ErrDecl)
		}
		switch {
		case state == "title":
			p.Name = l[i].S
		case state == "sections":
			v.Dir = refDirs[l[i].S]
		case state == "vars":
			v = api.Var{Name: l[i].S, Dir: v.Dir}
		case state == "type" || state == "values":
			v.Type = refTypes[l[i].S]
		case state == "last":
			v.Len = int(l[i].N) + 1
		case state == "first":
			begin = i
		}
		if next == "close" && (state == "first" || state == "minus") {
			n, fits := refFits(l[begin:i+1], v.Type)
			if !fits {
				return wrong(begin, api.ErrDecl)
			}
			v.Init = n
		}
		if class == ";" {
			p.Vars = append(p.Vars, v)
		}
		state = next
	}
	if len(p.Vars) > 64 {
		return api.Program{}, api.Fault{Code: api.ErrLong}
	}
	return p, none
}

// refMayBe answers whether a program may be, its statements by package stmt.
func refMayBe(p api.Program) bool {
	for _, v := range p.Vars {
		within, value := refRanges[v.Type]
		block := v.Type >= 101 && v.Type <= 110
		switch {
		case !refName(v.Name), !value && !block, v.Dir != 0 && v.Dir != 1 && v.Dir != 2:
			return false
		case block && (v.Len != 0 || v.Init != 0 || v.Dir != 0):
			return false
		case v.Len < 0 || v.Len > 32 || v.Len > 0 && (v.Init != 0 || v.Dir != 0):
			return false
		case value && (v.Init < within[0] || v.Init > within[1]):
			return false
		}
	}
	return refName(p.Name) && len(p.Vars) <= 64 && stmt.Check(p.Body) == api.OK
}

// refShow answers a program that may be as a text; its statements as packages stmt and lex show them.
func refShow(p api.Program) string {
	sections := [3]string{"VAR", "VAR_INPUT", "VAR_OUTPUT"}
	out, dir := "PROGRAM "+p.Name, -1
	for _, v := range p.Vars {
		if v.Dir != dir && dir >= 0 {
			out += " END_VAR"
		}
		if v.Dir != dir {
			out += " " + sections[v.Dir]
			dir = v.Dir
		}
		out += " " + v.Name + " : "
		if v.Len > 0 {
			out += fmt.Sprintf("ARRAY [ 0 .. %d ] OF ", v.Len-1)
		}
		for word, t := range refTypes {
			if t == v.Type {
				out += word
			}
		}
		switch {
		case v.Init == 0:
		case v.Type == 1:
			out += " := TRUE"
		case v.Type == 4:
			out += fmt.Sprintf(" := T#%dms", v.Init)
		default:
			out += strings.ReplaceAll(fmt.Sprintf(" := %d", v.Init), "-", "- ")
		}
		out += " ;"
	}
	if dir >= 0 {
		out += " END_VAR"
	}
	l, _ := stmt.Tokens(p.Body)
	if body, _ := lex.Show(append(l, api.Token{Kind: api.KEnd})); body != "" {
		out += " " + body
	}
	return out + " END_PROGRAM"
}
